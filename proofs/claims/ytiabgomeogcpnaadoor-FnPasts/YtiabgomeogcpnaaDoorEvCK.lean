/-
  Which events are right ahead of one: the contracts of impl.lastOf, impl.rightAhead, spec.l7Ahead, spec.l7Causes.
-/
import Derived.Test.YtiabgomeogcpnaaDoorEvI
import Derived.Test.YtiabgomeogcpnaaDoorEvSK
import Derived.Test.YtiabgomeogcpnaaDoorZan
namespace Go.Proofs.YtiabgomeogcpnaaDoor
open Go.RowKit

theorem info_parts7 {P : Program} {e : TypeId} {z : Value} {size bytes : Nat} (h : (P.info? e).map (fun i => (i.zero, i.size, i.bytes)) = some (some z, size, bytes)) :
    ∃ i, P.info? e = some i ∧ i.zero = some z ∧ i.size = size ∧ i.bytes = bytes := by
  obtain ⟨i, hi, hzz⟩ := Option.map_eq_some_iff.1 h
  simp only [Prod.mk.injEq] at hzz
  exact ⟨i, hi, hzz.1, hzz.2.1, hzz.2.2⟩

set_option maxHeartbeats 1000000 in
theorem lastOf_any (a : Option Addr) (c n : Nat) (l : List Ev) (pr : Int) (w : World) (hs : Evs w a l) (hn : n ≤ l.length) (hl : n ≤ maxLen) :
    Calls Tryd.prog 34 #[.slice a n c, .int .i64 pr] w fun r w' => r = .returned (.int .i64 (lastN l pr n)) ∧ w' = w := by
  unfold maxLen at hl
  go_enter Tryd.func34, Tryd.ntmps34
  go_wp2
  go_loop [5] (fun i => ∃ k : Nat, k ≤ n ∧ i = .int .i64 ((k : Int) - 1) ∧ lastN l pr n = lastN l pr k) (fun i => (intOf i + 1).toNat)
  case atStart => exact ⟨n, Nat.le_refl _, by go_num, rfl⟩
  case round =>
    obtain ⟨k, hk, rfl, hf⟩ := hrel
    have HF : Hid (lastN l pr n = lastN l pr k) := hf
    clear hf
    cases k with
    | zero =>
      have HR : Hid (lastN l pr n = -1) := HF.out
      have h0 : ((0 : Nat) : Int) - 1 = -1 := rfl
      rw [h0]
      clear hs
      go_wp2
      go_ret
      exact ⟨ret_int HR.out.symm, rfl⟩
    | succ j =>
      have hj1 : ((j + 1 : Nat) : Int) - 1 = (j : Int) := by omega
      rw [hj1]
      obtain ⟨b, off, rfl, c0, c1, c2⟩ := hs j _ (evA_get (by omega))
      clear hs
      by_cases hp : (evA l j).pr = pr
      · have d : ((evA l j).pr == pr) = true := by simp [hp]
        have HR : Hid (lastN l pr n = j) := by show _ = _; rw [HF.out, lastN, if_pos hp]
        clear hp
        go_wp2
        go_ret
        exact ⟨ret_int HR.out.symm, rfl⟩
      · have d : ((evA l j).pr == pr) = false := by simp [hp]
        have HR : Hid (lastN l pr n = lastN l pr j) := by show _ = _; rw [HF.out, lastN, if_neg hp]
        clear hp
        go_wp2
        go_round
        case rel => exact ⟨j, by omega, by go_num, HR.out⟩
        case measure => simp [intOf]

set_option maxHeartbeats 1000000 in
theorem l7Ahead_any (b off i : Nat) (l : List Ev) (w : World) (hs : Evs w (some ⟨b, off, none⟩) l) (hi : i < l.length) (hl : l.length ≤ maxLen) {lcap : Nat} (_hcap : l.length ≤ lcap := by assumption) :
    Calls Tryd.prog 39 #[.slice (some ⟨b, off, none⟩) l.length lcap, .int .i64 (i : Int)] w fun r w' => r = .returned (.int .i64 (lastN l (evA l i).pr i)) ∧ ∃ n, w' = w.drewN n := by
  unfold maxLen at hl
  have hi0 : (0 : Int) ≤ (i : Int) := by omega
  have hi1 : (i : Int) < (l.length : Int) := by omega
  obtain ⟨b', off', e', x0, x1, x2⟩ := hs i _ (evA_get hi)
  simp only [Option.some.injEq, Addr.mk.injEq, and_true] at e'
  obtain ⟨rfl, rfl⟩ := e'
  obtain ⟨x, hx⟩ : ∃ x, evA l i = x := ⟨_, rfl⟩
  rw [hx] at x0 x1 x2 ⊢
  clear hx
  go_enter Tryd.func39, Tryd.ntmps39
  go_wp2
  go_loopw [5] (fun v wr => ∃ k : Nat, k ≤ i ∧ v = .int .i64 ((k : Int) - 1) ∧ lastN l x.pr i = lastN l x.pr k ∧ ∃ n, wr = w.drewN n) (fun v _ => (intOf v + 1).toNat)
  case atStart => exact ⟨i, Nat.le_refl _, by go_num, rfl, 0, rfl⟩
  case round =>
    obtain ⟨k, hk, rfl, hf, n, rfl⟩ := hrel
    have HF : Hid (lastN l x.pr i = lastN l x.pr k) := hf
    clear hf
    cases k with
    | zero =>
      have HR : Hid (lastN l x.pr i = -1) := HF.out
      have h0 : ((0 : Nat) : Int) - 1 = -1 := rfl
      rw [h0]
      clear hs
      go_wp2
      go_ret
      exact ⟨ret_int HR.out.symm, n, rfl⟩
    | succ j =>
      have hj1 : ((j + 1 : Nat) : Int) - 1 = (j : Int) := by omega
      rw [hj1]
      obtain ⟨b', off', e', c0, c1, c2⟩ := hs j _ (evA_get (by omega))
      simp only [Option.some.injEq, Addr.mk.injEq, and_true] at e'
      obtain ⟨rfl, rfl⟩ := e'
      have hjl0 : (0 : Int) ≤ (j : Int) := by omega
      have hjl1 : (j : Int) < (l.length : Int) := by omega
      clear hs
      by_cases hp : (evA l j).pr = x.pr
      · have d : ((evA l j).pr == x.pr) = true := by simp [hp]
        have HR : Hid (lastN l x.pr i = j) := by show _ = _; rw [HF.out, lastN, if_pos hp]
        clear hp
        go_wp2
        go_quiet (fail)
        go_wp2
        go_ret
        exact ⟨ret_int HR.out.symm, n + nq, by simp⟩
      · have d : ((evA l j).pr == x.pr) = false := by simp [hp]
        have HR : Hid (lastN l x.pr i = lastN l x.pr j) := by show _ = _; rw [HF.out, lastN, if_neg hp]
        clear hp
        go_wp2
        go_quiet (fail)
        go_wp2
        go_roundw
        case rel => exact ⟨j, by omega, by go_num, HR.out, n + nq, by simp⟩
        case measure => simp [intOf]

/-- The places right ahead of one that comes behind the first n. -/
def causes (l : List Ev) (n : Nat) (e : Ev) : List Int :=
  (if 0 ≤ lastN l e.pr n then [lastN l e.pr n] else []) ++ (if e.kd = 3 then [fnd l 2 e.ms n] else [])

theorem causes_len (l : List Ev) (n : Nat) (e : Ev) : (causes l n e).length ≤ 2 := by
  unfold causes; rw [List.length_append]; split <;> split <;> simp

theorem causes_mem {l : List Ev} {n : Nat} {e : Ev} (h : mayC l n e) {z : Int} (hz : z ∈ causes l n e) : 0 ≤ z ∧ z < n := by
  have h1 := lastN_rg l e.pr n
  have h2 := fnd_rg l 2 e.ms n
  unfold causes at hz
  rcases List.mem_append.1 hz with hz | hz
  · split at hz
    · simp at hz; omega
    · simp at hz
  · split at hz
    · rename_i h3
      simp at hz
      have : 0 ≤ fnd l 2 e.ms n := by unfold mayC at h; omega
      omega
    · simp at hz

set_option maxRecDepth 100000 in
set_option maxHeartbeats 2000000 in
theorem rightAhead_any (b off c n : Nat) (l : List Ev) (e : Ev) (w : World) (hs : Evs w (some ⟨b, off, none⟩) l) (hn : n ≤ l.length) (hl : n ≤ maxLen) :
    Calls Tryd.prog 27 #[.slice (some ⟨b, off, none⟩) n c, evV e] w fun r w' => ZAns w (causes l n e) r w' := by
  obtain ⟨i0, hi, hz0, hz1, hz2⟩ := info_parts7 Tryd.infoInt
  have hb : Below w.heap.size w (w.alloc (.cells #[.int .i64 e.pr, .int .i64 e.kd, .int .i64 e.ms] 58)) := (Below.refl _ _).alloc (Nat.le_refl _) _
  have hst0 : ZSt w.heap.size w (w.alloc (.cells #[.int .i64 e.pr, .int .i64 e.kd, .int .i64 e.ms] 58)) (.slice none 0 0) [] := ⟨World.ownsRow_nil _ _ _ _, hb⟩
  have hs0 := hs.below hb
  have e1 : (w.alloc (.cells #[.int .i64 e.pr, .int .i64 e.kd, .int .i64 e.ms] 58)).cell? ⟨w.heap.size, 1, none⟩ = some (.int .i64 e.kd) := by simp [go_sem]
  have e2 : (w.alloc (.cells #[.int .i64 e.pr, .int .i64 e.kd, .int .i64 e.ms] 58)).cell? ⟨w.heap.size, 2, none⟩ = some (.int .i64 e.ms) := by simp [go_sem]
  have hlm : n ≤ 9223372036854775807 := by unfold maxLen at hl; omega
  have HC : Hid (causes l n e = (if 0 ≤ lastN l e.pr n then [lastN l e.pr n] else []) ++ (if e.kd = 3 then [fnd l 2 e.ms n] else [])) := rfl
  obtain ⟨q1, hq1⟩ : ∃ q, lastN l e.pr n = q := ⟨_, rfl⟩
  have HQ1 : Hid (lastN l e.pr n = q1) := hq1
  rw [hq1] at HC
  clear hq1
  go_enter Tryd.func27, Tryd.ntmps27
  go_wp2_with fail
  refine (lastOf_any _ c n l e.pr _ hs0 hn hl).mono ?_
  rintro r w1 ⟨hr, hw1⟩
  rw [HQ1.out] at hr
  subst hr
  have hsz : w.heap.size < w1.heap.size := by rw [hw1]; simp
  rw [← hw1] at hst0 hs0 e1 e2 hb
  clear hw1 HQ1
  by_cases h1 : 0 ≤ q1
  · rw [if_pos h1] at HC
    have hst1 : ∀ o, ZSt w.heap.size w (w1.alloc o) (.slice none 0 0) [] := fun o => zst_below hst0 ((Below.refl _ _).alloc (Nat.le_refl _) o)
    go_wp2_with (at_builtin; refine wpList_append_lies _ rfl _ _ 26 rfl w.heap.size 3 i0 _ 1 8 Tryd.underlying26 hi hz0 hz1 hz2 rfl (by decide) (.slice none 0 0) ([] : List Int).length (zCells ([] : List Int)) rfl (hst1 _).own ⟨w1.heap.size, 0, none⟩ 1 1 (zCells [q1]) rfl rfl ?c1 ?c2 (by omega) ?c3 ?c4 ?c5 (w1.heap.size + 1) ?c6 ?_)
    case c1 => first | exact (fun j u h => h) | exact World.news_of_block (cs := #[.int .i64 (q1)]) (t := 3) (fr := (0, 0)) (by first | exact (heap_alloc_new _ _) | simpa using (heap_alloc_new _ _))
    case c2 => simp [zCells, Value.oneCell']
    case c3 => unfold maxLen; simp
    case c4 => simp
    case c5 => first | omega | (simp; omega)
    try (case c6 => simp)
    intro g2 cap2 w2 hown2 hgrow2 hat2 _
    have hst2 := zst_step (q := q1) (hst1 _) (Nat.le_refl _) hgrow2 hown2
    have e21 : w2.cell? ⟨w.heap.size, 1, none⟩ = some (.int .i64 e.kd) := (hgrow2.cell_far ⟨w.heap.size, 1, none⟩ (by simp; omega) (by simp [Value.ownBlock])).trans ((World.cell?_alloc_old _ _ ⟨w.heap.size, 1, none⟩ (by simp; omega)).trans e1)
    have e22 : w2.cell? ⟨w.heap.size, 2, none⟩ = some (.int .i64 e.ms) := (hgrow2.cell_far ⟨w.heap.size, 2, none⟩ (by simp; omega) (by simp [Value.ownBlock])).trans ((World.cell?_alloc_old _ _ ⟨w.heap.size, 2, none⟩ (by simp; omega)).trans e2)
    have hs2 := hs.below hst2.bel
    clear hown2 hgrow2 hat2 hst1 hst0 e1 e2 hs0 hb
    simp only [List.nil_append, List.length_nil, Nat.zero_add] at hst2
    by_cases h3 : e.kd = 3
    · have d3 : (e.kd == 3) = true := by simp [h3]
      rw [if_pos h3] at HC
      clear h3
      go_wp2_with fail
      refine (eventWith_any _ c n l 2 e.ms _ hs2 hn hl).mono ?_
      rintro r w3 ⟨rfl, hB3⟩
      obtain ⟨q2, hq2⟩ : ∃ q, fnd l 2 e.ms n = q := ⟨_, rfl⟩
      rw [hq2] at HC ⊢
      clear hq2
      have hst3 := zst_below hst2 hB3
      have hst4 : ∀ o, ZSt w.heap.size w (w3.alloc o) (.slice (some ⟨g2, 0, none⟩) 1 cap2) [q1] := fun o => zst_below hst3 ((Below.refl _ _).alloc (Nat.le_refl _) o)
      have hsz3 := hst3.bel.size
      clear hst2 hst3 hB3 hs2
      go_wp2_with (at_builtin; refine wpList_append_lies _ rfl _ _ 26 rfl w.heap.size 3 i0 _ 1 8 Tryd.underlying26 hi hz0 hz1 hz2 rfl (by decide) (.slice (some ⟨g2, 0, none⟩) 1 cap2) [q1].length (zCells [q1]) rfl (hst4 _).own ⟨w3.heap.size, 0, none⟩ 1 1 (zCells [q2]) rfl rfl ?c1 ?c2 (by omega) ?c3 ?c4 ?c5 (w3.heap.size + 1) ?c6 ?_)
      case c1 => first | exact (fun j u h => h) | exact World.news_of_block (cs := #[.int .i64 (q2)]) (t := 3) (fr := (0, 0)) (by first | exact (heap_alloc_new _ _) | simpa using (heap_alloc_new _ _))
      case c2 => simp [zCells, Value.oneCell']
      case c3 => unfold maxLen; simp
      case c4 => simp
      case c5 => first | omega | (simp; omega)
      try (case c6 => simp)
      intro g5 cap5 w5 hown5 hgrow5 hat5 _
      have hst5 := zst_step (q := q2) (hst4 _) (Nat.le_refl _) hgrow5 hown5
      have HS5 : Hid (ZSt w.heap.size w w5 (.slice (some ⟨g5, 0, none⟩) 2 cap5) [q1, q2]) := hst5
      clear hst5 hown5 hgrow5 hat5 hst4
      go_wp2
      go_ret
      rw [HC.out]
      exact zans_of HS5.out
    · have d3 : (e.kd == 3) = false := by simp [h3]
      rw [if_neg h3] at HC
      clear h3 hs2
      go_wp2
      go_ret
      rw [HC.out]
      exact zans_of hst2
  · rw [if_neg h1] at HC
    by_cases h3 : e.kd = 3
    · have d3 : (e.kd == 3) = true := by simp [h3]
      rw [if_pos h3] at HC
      clear h3
      go_wp2_with fail
      refine (eventWith_any _ c n l 2 e.ms _ hs0 hn hl).mono ?_
      rintro r w3 ⟨rfl, hB3⟩
      obtain ⟨q2, hq2⟩ : ∃ q, fnd l 2 e.ms n = q := ⟨_, rfl⟩
      rw [hq2] at HC ⊢
      clear hq2
      have hst3 := zst_below hst0 hB3
      have hst4 : ∀ o, ZSt w.heap.size w (w3.alloc o) (.slice none 0 0) [] := fun o => zst_below hst3 ((Below.refl _ _).alloc (Nat.le_refl _) o)
      have hsz3 := hst3.bel.size
      clear hst0 hst3 hB3 hs0 e1 e2 hb
      go_wp2_with (at_builtin; refine wpList_append_lies _ rfl _ _ 26 rfl w.heap.size 3 i0 _ 1 8 Tryd.underlying26 hi hz0 hz1 hz2 rfl (by decide) (.slice none 0 0) ([] : List Int).length (zCells ([] : List Int)) rfl (hst4 _).own ⟨w3.heap.size, 0, none⟩ 1 1 (zCells [q2]) rfl rfl ?c1 ?c2 (by omega) ?c3 ?c4 ?c5 (w3.heap.size + 1) ?c6 ?_)
      case c1 => first | exact (fun j u h => h) | exact World.news_of_block (cs := #[.int .i64 (q2)]) (t := 3) (fr := (0, 0)) (by first | exact (heap_alloc_new _ _) | simpa using (heap_alloc_new _ _))
      case c2 => simp [zCells, Value.oneCell']
      case c3 => unfold maxLen; simp
      case c4 => simp
      case c5 => first | omega | (simp; omega)
      try (case c6 => simp)
      intro g5 cap5 w5 hown5 hgrow5 hat5 _
      have hst5 := zst_step (q := q2) (hst4 _) (Nat.le_refl _) hgrow5 hown5
      have HS5 : Hid (ZSt w.heap.size w w5 (.slice (some ⟨g5, 0, none⟩) 1 cap5) [q2]) := hst5
      clear hst5 hown5 hgrow5 hat5 hst4
      go_wp2
      go_ret
      rw [HC.out]
      exact zans_of HS5.out
    · have d3 : (e.kd == 3) = false := by simp [h3]
      rw [if_neg h3] at HC
      clear h3 hs0
      go_wp2
      go_ret
      rw [HC.out]
      exact zans_of hst0

set_option maxRecDepth 100000 in
set_option maxHeartbeats 2000000 in
theorem l7Causes_any (b off i : Nat) (l : List Ev) (w : World) (hs : Evs w (some ⟨b, off, none⟩) l) (hi' : i < l.length) (hl : l.length ≤ maxLen) {lcap : Nat} (hcap : l.length ≤ lcap := by assumption) :
    Calls Tryd.prog 31 #[.slice (some ⟨b, off, none⟩) l.length lcap, .int .i64 (i : Int)] w fun r w' => ZAns w (causes l i (evA l i)) r w' := by
  obtain ⟨i0, hi, hz0, hz1, hz2⟩ := info_parts7 Tryd.infoInt
  have hlm : l.length ≤ 9223372036854775807 := by unfold maxLen at hl; omega
  have hi1 : (0 : Int) ≤ (i : Int) := by omega
  have hi2 : (i : Int) < (l.length : Int) := by omega
  have HC : Hid (causes l i (evA l i) = (if 0 ≤ lastN l (evA l i).pr i then [lastN l (evA l i).pr i] else []) ++ (if (evA l i).kd = 3 then [fnd l 2 (evA l i).ms i] else [])) := rfl
  obtain ⟨q1, hq1⟩ : ∃ q, lastN l (evA l i).pr i = q := ⟨_, rfl⟩
  have HQ1 : Hid (lastN l (evA l i).pr i = q1) := hq1
  rw [hq1] at HC
  clear hq1
  go_enter Tryd.func31, Tryd.ntmps31
  go_wp2_with fail
  refine (l7Ahead_any b off i l _ hs hi' hl).mono ?_
  rintro r w1 ⟨hr, n, hw1⟩
  rw [HQ1.out] at hr
  subst hr
  have hb : Below w.heap.size w w1 := by rw [hw1]; exact below_drewN (Below.refl _ _) n
  clear hw1 HQ1
  have hst0 : ZSt w.heap.size w w1 (.slice none 0 0) [] := ⟨World.ownsRow_nil _ _ _ _, hb⟩
  have hs0 := hs.below hb
  have hsz := hb.size
  by_cases h1 : 0 ≤ q1
  · rw [if_pos h1] at HC
    have hst1 : ∀ o, ZSt w.heap.size w (w1.alloc o) (.slice none 0 0) [] := fun o => zst_below hst0 ((Below.refl _ _).alloc (Nat.le_refl _) o)
    go_wp2_with (at_builtin; refine wpList_append_lies _ rfl _ _ 26 rfl w.heap.size 3 i0 _ 1 8 Tryd.underlying26 hi hz0 hz1 hz2 rfl (by decide) (.slice none 0 0) ([] : List Int).length (zCells ([] : List Int)) rfl (hst1 _).own ⟨w1.heap.size, 0, none⟩ 1 1 (zCells [q1]) rfl rfl ?c1 ?c2 (by omega) ?c3 ?c4 ?c5 (w1.heap.size + 1) ?c6 ?_)
    case c1 => first | exact (fun j u h => h) | exact World.news_of_block (cs := #[.int .i64 (q1)]) (t := 3) (fr := (0, 0)) (by first | exact (heap_alloc_new _ _) | simpa using (heap_alloc_new _ _))
    case c2 => simp [zCells, Value.oneCell']
    case c3 => unfold maxLen; simp
    case c4 => simp
    case c5 => first | omega | (simp; omega)
    try (case c6 => simp)
    intro g2 cap2 w2 hown2 hgrow2 hat2 _
    have hst2 := zst_step (q := q1) (hst1 _) (Nat.le_refl _) hgrow2 hown2
    have hs2 := hs.below hst2.bel
    clear hown2 hgrow2 hat2 hst1 hst0 hs0 hb
    simp only [List.nil_append, List.length_nil, Nat.zero_add] at hst2
    obtain ⟨b', off', e', x0, x1, x2⟩ := hs2 i _ (evA_get hi')
    simp only [Option.some.injEq, Addr.mk.injEq, and_true] at e'
    obtain ⟨rfl, rfl⟩ := e'
    obtain ⟨x, hx⟩ : ∃ x, evA l i = x := ⟨_, rfl⟩
    have HX : Hid (evA l i = x) := hx
    rw [hx] at x0 x1 x2 HC
    clear hx
    by_cases h3 : x.kd = 3
    · have d3 : (x.kd == 3) = true := by simp [h3]
      rw [if_pos h3] at HC
      clear h3
      go_wp2_with fail
      refine (l7Send_any b off i l x.ms _ hs2 (by omega) hl).mono ?_
      rintro r w3 ⟨rfl, hB3⟩
      obtain ⟨q2, hq2⟩ : ∃ q, fnd l 2 x.ms i = q := ⟨_, rfl⟩
      rw [hq2] at HC ⊢
      clear hq2
      have hst3 := zst_below hst2 hB3
      have hst4 : ∀ o, ZSt w.heap.size w (w3.alloc o) (.slice (some ⟨g2, 0, none⟩) 1 cap2) [q1] := fun o => zst_below hst3 ((Below.refl _ _).alloc (Nat.le_refl _) o)
      have hsz3 := hst3.bel.size
      clear hst2 hst3 hB3 hs2 x0 x1 x2
      go_wp2_with (at_builtin; refine wpList_append_lies _ rfl _ _ 26 rfl w.heap.size 3 i0 _ 1 8 Tryd.underlying26 hi hz0 hz1 hz2 rfl (by decide) (.slice (some ⟨g2, 0, none⟩) 1 cap2) [q1].length (zCells [q1]) rfl (hst4 _).own ⟨w3.heap.size, 0, none⟩ 1 1 (zCells [q2]) rfl rfl ?c1 ?c2 (by omega) ?c3 ?c4 ?c5 (w3.heap.size + 1) ?c6 ?_)
      case c1 => first | exact (fun j u h => h) | exact World.news_of_block (cs := #[.int .i64 (q2)]) (t := 3) (fr := (0, 0)) (by first | exact (heap_alloc_new _ _) | simpa using (heap_alloc_new _ _))
      case c2 => simp [zCells, Value.oneCell']
      case c3 => unfold maxLen; simp
      case c4 => simp
      case c5 => first | omega | (simp; omega)
      try (case c6 => simp)
      intro g5 cap5 w5 hown5 hgrow5 hat5 _
      have hst5 := zst_step (q := q2) (hst4 _) (Nat.le_refl _) hgrow5 hown5
      have HS5 : Hid (ZSt w.heap.size w w5 (.slice (some ⟨g5, 0, none⟩) 2 cap5) [q1, q2]) := hst5
      clear hst5 hown5 hgrow5 hat5 hst4
      go_wp2
      go_ret
      rw [HX.out, HC.out]
      exact zans_of HS5.out
    · have d3 : (x.kd == 3) = false := by simp [h3]
      rw [if_neg h3] at HC
      clear h3 hs2
      go_wp2
      go_ret
      rw [HX.out, HC.out]
      exact zans_of hst2
  · rw [if_neg h1] at HC
    obtain ⟨b', off', e', x0, x1, x2⟩ := hs0 i _ (evA_get hi')
    simp only [Option.some.injEq, Addr.mk.injEq, and_true] at e'
    obtain ⟨rfl, rfl⟩ := e'
    obtain ⟨x, hx⟩ : ∃ x, evA l i = x := ⟨_, rfl⟩
    have HX : Hid (evA l i = x) := hx
    rw [hx] at x0 x1 x2 HC
    clear hx
    by_cases h3 : x.kd = 3
    · have d3 : (x.kd == 3) = true := by simp [h3]
      rw [if_pos h3] at HC
      clear h3
      go_wp2_with fail
      refine (l7Send_any b off i l x.ms _ hs0 (by omega) hl).mono ?_
      rintro r w3 ⟨rfl, hB3⟩
      obtain ⟨q2, hq2⟩ : ∃ q, fnd l 2 x.ms i = q := ⟨_, rfl⟩
      rw [hq2] at HC ⊢
      clear hq2
      have hst3 := zst_below hst0 hB3
      have hst4 : ∀ o, ZSt w.heap.size w (w3.alloc o) (.slice none 0 0) [] := fun o => zst_below hst3 ((Below.refl _ _).alloc (Nat.le_refl _) o)
      have hsz3 := hst3.bel.size
      clear hst0 hst3 hB3 hs0 hb x0 x1 x2
      go_wp2_with (at_builtin; refine wpList_append_lies _ rfl _ _ 26 rfl w.heap.size 3 i0 _ 1 8 Tryd.underlying26 hi hz0 hz1 hz2 rfl (by decide) (.slice none 0 0) ([] : List Int).length (zCells ([] : List Int)) rfl (hst4 _).own ⟨w3.heap.size, 0, none⟩ 1 1 (zCells [q2]) rfl rfl ?c1 ?c2 (by omega) ?c3 ?c4 ?c5 (w3.heap.size + 1) ?c6 ?_)
      case c1 => first | exact (fun j u h => h) | exact World.news_of_block (cs := #[.int .i64 (q2)]) (t := 3) (fr := (0, 0)) (by first | exact (heap_alloc_new _ _) | simpa using (heap_alloc_new _ _))
      case c2 => simp [zCells, Value.oneCell']
      case c3 => unfold maxLen; simp
      case c4 => simp
      case c5 => first | omega | (simp; omega)
      try (case c6 => simp)
      intro g5 cap5 w5 hown5 hgrow5 hat5 _
      have hst5 := zst_step (q := q2) (hst4 _) (Nat.le_refl _) hgrow5 hown5
      have HS5 : Hid (ZSt w.heap.size w w5 (.slice (some ⟨g5, 0, none⟩) 1 cap5) [q2]) := hst5
      clear hst5 hown5 hgrow5 hat5 hst4
      go_wp2
      go_ret
      rw [HX.out, HC.out]
      exact zans_of HS5.out
    · have d3 : (x.kd == 3) = false := by simp [h3]
      rw [if_neg h3] at HC
      clear h3 hs0
      go_wp2
      go_ret
      rw [HX.out, HC.out]
      exact zans_of hst0

end Go.Proofs.YtiabgomeogcpnaaDoor
