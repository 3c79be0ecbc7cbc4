/-
  Drawn marks, and the laws' helpers on marks and bytes: spec.(*l1Cur).marks, spec.DrawMarksOf, spec.DrawEndOfEpoch, spec.DrawCutMarks, laws.numberOf, laws.sameMarks.
-/
import Derived.Test.YtgmcllfdhkjafaaCurE2
import Derived.Test.YtgmcllfdhkjafaaMkCut
namespace Go.Proofs.Ytgmcllfdhkjafaa
open Go.RowKit

/-- The cursor over code, newly made. -/
theorem cur_new {w : World} {a : Option Addr} {bs : List UInt8} {c : Nat} (hs : Bys w a bs) (hl : bs.length ≤ 1048576) :
    Cur (w.alloc (.cells #[.slice a bs.length c, .int .i64 0, .int .u64 0] 63)) w.heap.size a bs c 0 := by
  have hb : Below w.heap.size w (w.alloc (.cells #[.slice a bs.length c, .int .i64 0, .int .u64 0] 63)) := (Below.refl _ _).alloc (Nat.le_refl _) _
  refine ⟨by simp, by simp, ⟨0, by simp⟩, fun i => by simp [go_sem], hs.below hb, hs.lt, hl⟩

/-- Drawn numbers. -/
def EnAns (w : World) (e : Ending) (w' : World) : Prop := ∃ v zs, e = .returned v ∧ zs.length ≤ 31 ∧ w'.ownsRow w.heap.size 3 1 v zs.length (zCells zs) ∧ Below w.heap.size w w'

theorem drawGoodEntries_any (a : Option Addr) (c : Nat) (bs : List UInt8) (w : World) (hs : Bys w a bs) (hl : bs.length ≤ 1048576) :
    Calls Try.prog 34 #[.slice a bs.length c] w fun e w' => EnAns w e w' := by
  have hb : ∀ o, Below w.heap.size w (w.alloc o) := fun o => (Below.refl _ _).alloc (Nat.le_refl _) _
  have hC := cur_new (c := c) hs hl
  go_enter Try.func34, Try.ntmps34
  go_wp2_with fail
  refine (entries_any _ _ _ _ _ _ hC (by omega)).mono ?_
  rintro r w1 ⟨v, zs, rfl, hz, st⟩
  have own := st.own
  have hB := (hb _).trans st.far.bel
  have hs1 := (hb (.cells #[.slice a bs.length c, .int .i64 0, .int .u64 0] 63)).size
  clear hC st
  go_wp2
  go_ret
  exact ⟨v, zs, rfl, hz, ownsM_mono own hs1, hB⟩

theorem drawMarksOf_any (a : Option Addr) (c : Nat) (bs : List UInt8) (w : World) (hs : Bys w a bs) (hl : bs.length ≤ 1048576) :
    Calls Try.prog 16 #[.slice a bs.length c] w fun e w' => EnAns w e w' := by
  go_enter Try.func16, Try.ntmps16
  go_wp2_with fail
  refine (drawGoodEntries_any _ _ _ _ hs hl).mono ?_
  rintro r w1 ⟨v, zs, rfl, hz, own, hB⟩
  go_wp2
  go_ret
  exact ⟨v, zs, rfl, hz, own, hB⟩

theorem mkCells_set : ∀ (ms : List Mk) (i : Nat) (y : Int) (m : Mk), ms[i]? = some m → mkCells (ms.set i ⟨m.ep, y⟩) = (mkCells ms).set (i * 2 + 1) (.int .i64 y)
  | [], i, y, m, h => by simp at h
  | q :: r, 0, y, m, h => by simp at h; subst h; rfl
  | q :: r, i + 1, y, m, h => by
    have := mkCells_set r i y m (by simpa using h)
    have e : (i + 1) * 2 + 1 = i * 2 + 1 + 1 + 1 := by omega
    rw [e]
    simp only [List.set_cons_succ, mkCells]
    rw [this]

/-- Drawn marks: a list of marks of the call's own, and how many entries. -/
structure MaSt (w wr : World) (p : Nat) (a : Option Addr) (bs : List UInt8) (c : Nat) (v : Value) (ms : List Mk) (z : Nat) : Prop where
  own : wr.ownsRow w.heap.size 56 2 v ms.length (mkCells ms)
  cur : ∃ z', z' ≤ z ∧ Cur wr p a bs c z'
  far : Far p w wr

theorem ma_draw {w wr w' : World} {p : Nat} {a : Option Addr} {bs : List UInt8} {c z z0 : Nat} {v : Value} {ms : List Mk} (h : MaSt w wr p a bs c v ms z) (hz : z0 ≤ z) (hp : p < w.heap.size) (hd : Drew wr p a bs c z0 w') : MaSt w w' p a bs c v ms (z + 2) := by
  obtain ⟨z', h1, h2, h3⟩ := hd
  exact ⟨owns_far h.own h3 hp, ⟨z', by omega, h2⟩, h.far.trans h3⟩

theorem ma_store {w wr : World} {p : Nat} {a : Option Addr} {bs : List UInt8} {c z g cap x : Nat} {ms : List Mk} {y : Int} {m : Mk} (h : MaSt w wr p a bs c (.slice (some ⟨g, 0, none⟩) ms.length cap) ms z) (hp : p < w.heap.size) (hm : ms[x]? = some m) :
    MaSt w (wr.setCell ⟨g, x * 2 + 1, none⟩ (.int .i64 y)) p a bs c (.slice (some ⟨g, 0, none⟩) ms.length cap) (ms.set x ⟨m.ep, y⟩) z := by
  obtain ⟨h1, h2⟩ := h.own.stored (x * 2 + 1) (.int .i64 y)
  have hs := h.far.bel.size
  have hg := (h.own.lt g rfl).1
  have hB : Below w.heap.size wr (wr.setCell ⟨g, x * 2 + 1, none⟩ (.int .i64 y)) := (Below.refl _ _).setCell hg _
  obtain ⟨z', k1, k2⟩ := h.cur
  refine ⟨?_, ⟨z', k1, ?_⟩, ?_⟩
  · rw [List.length_set, mkCells_set ms x y m hm]; exact h1
  · have hb := hB.block p hp
    obtain ⟨s, hs2⟩ := k2.c2
    exact ⟨(World.cell?_of_block (a := ⟨p, 0, none⟩) hb).trans k2.c0, (World.cell?_of_block (a := ⟨p, 1, none⟩) hb).trans k2.c1, ⟨s, (World.cell?_of_block (a := ⟨p, 2, none⟩) hb).trans hs2⟩, fun i => (World.frozen?_of_block (a := ⟨p, i, none⟩) hb).trans (k2.f i), k2.by_.of_block (fun b hi => hB.block b (by have := k2.lo b hi; omega)), k2.lo, k2.sm⟩
  · exact ⟨h.far.bel.trans (hB.mono (by omega)), fun b hb hne => (hB.block b hb).trans (h.far.blk b hb hne)⟩

set_option maxRecDepth 100000 in
set_option maxHeartbeats 4000000 in
theorem marks_any (p : Nat) (a : Option Addr) (bs : List UInt8) (c z : Nat) (w : World) (h : Cur w p a bs c z) (hz : z ≤ 700000000) :
    Calls Try.prog 37 #[.pointer (some ⟨p, 0, none⟩)] w fun e w' => ∃ (v : Value) (ms : List Mk) (n : Nat), e = .returned (.tuple #[v, .int .i64 (n : Int)]) ∧ ms.length ≤ 31 ∧ n ≤ 31 ∧ MaSt w w' p a bs c v ms (z + 300) := by
  have hp : p < w.heap.size := lt_of_cell h.c0
  go_enter Try.func37, Try.ntmps37
  go_wp2_with fail
  refine (entries_any _ _ _ _ _ _ h (by omega)).mono ?_
  rintro r w1 ⟨v1, zs, rfl, hz1, st⟩
  obtain ⟨a1, c1, rfl⟩ := ownsZ_form st.own
  have hI := (ints_of_owns st.own).1
  have hs1 := st.far.bel.size
  go_wp2_with fail
  refine (specMO_any _ _ _ _ hI (by unfold maxLen; omega)).mono ?_
  rintro r w2 ⟨v2, rfl, hst⟩
  obtain ⟨z1, hzz, C1⟩ := st.cur
  have st2 : MaSt w w2 p a bs c v2 (moL zs) (z + 200) := ⟨ownsM_mono hst.own hs1, ⟨z1, hzz, C1.below hst.bel⟩, st.far.trans (Far.of_below hst.bel (by omega))⟩
  clear hst C1 st hI h
  have hml : (moL zs).length ≤ 31 := by
    unfold moL
    split
    · have := marksTo_len zs zs.length; unfold marksL; omega
    · simp
  cases hg : goodE zs with
  | false =>
    have HS2 : Hid (MaSt w w2 p a bs c v2 (moL zs) (z + 200)) := st2
    clear st2 hg
    go_wp2
    go_ret2
    obtain ⟨z', q1, q2⟩ := HS2.out.cur
    exact ⟨_, [], 3, rfl, by simp, by omega, World.ownsRow_nil _ _ _ _, ⟨z', by omega, q2⟩, HS2.out.far⟩
  | true =>
    clear hg
    obtain ⟨ms, hms⟩ : ∃ ms, moL zs = ms := ⟨_, rfl⟩
    rw [hms] at st2 hml
    clear hms
    obtain ⟨av, cv, rfl⟩ := ownsZ_form st2.own
    by_cases h0 : 0 < ms.length
    · have h0I : (0 : Int) < (ms.length : Int) := by omega
      obtain ⟨g, cap, f, hv, hg, hnc, -, -⟩ := row_of_ownsM st2.own h0
      simp only [Value.slice.injEq] at hv
      obtain ⟨rfl, -, rfl⟩ := hv
      obtain ⟨z6, hz6, C6⟩ := st2.cur
      go_wp2_with fail
      refine (one_any _ _ _ _ _ _ _ C6 (by omega)).mono ?_
      rintro r w7 ⟨b7, rfl, k7⟩
      have st7 := ma_draw st2 hz6 hp k7
      clear k7 C6 st2
      cases b7 with
      | false =>
        have HS7 : Hid (MaSt w w7 p a bs c (.slice (some ⟨g, 0, none⟩) ms.length cv) ms (z + 200 + 2)) := st7
        clear st7
        go_wp2
        go_ret2
        obtain ⟨z', q1, q2⟩ := HS7.out.cur
        exact ⟨_, ms, zs.length, rfl, hml, hz1, HS7.out.own, ⟨z', by omega, q2⟩, HS7.out.far⟩
      | true =>
        obtain ⟨z7, hz7, C7⟩ := st7.cur
        go_wp2_with fail
        refine (pick_any _ _ _ _ _ _ _ C7 (by omega)).mono ?_
        rintro r w8 ⟨x, rfl, hx, k8⟩
        have st8 := ma_draw st7 hz7 hp k8
        have hxl : x < ms.length := by omega
        have hxI : (x : Int) < (ms.length : Int) := by omega
        clear k8 C7 st7
        obtain ⟨z8, hz8, C8⟩ := st8.cur
        go_wp2_with fail
        refine (pick_any _ _ _ _ _ _ _ C8 (by omega)).mono ?_
        rintro r w9 ⟨y, rfl, hy, k9⟩
        have st9 := ma_draw st8 hz8 hp k9
        obtain ⟨m, hm⟩ := getMk hxl
        have hcell : w9.cell? ⟨g, x * 2 + 1, none⟩ = some (.int .i64 m.st) := by
          rw [st9.own.cellAt _ (by omega)]; exact (mkCells_get ms x m hm).2
        have hfro := st9.own.frozenAt
        have HS : Hid (∀ y, MaSt w (w9.setCell ⟨g, x * 2 + 1, none⟩ (.int .i64 y)) p a bs c (.slice (some ⟨g, 0, none⟩) ms.length cv) (ms.set x ⟨m.ep, y⟩) (z + 200 + 2 + 2 + 2)) := fun y => ma_store st9 hp hm
        clear st9 k9 C8 st8 hm
        go_wp2
        go_ret2
        obtain ⟨z', q1, q2⟩ := (HS.out ((y : Int) - 1)).cur
        have hown := (HS.out ((y : Int) - 1)).own
        have hle : (ms.set x ⟨m.ep, (y : Int) - 1⟩).length ≤ 31 := by rw [List.length_set]; exact hml
        exact ⟨_, ms.set x ⟨m.ep, (y : Int) - 1⟩, zs.length, rfl, hle, hz1, hown, ⟨z', by omega, q2⟩, (HS.out _).far⟩
    · obtain rfl : ms = [] := List.eq_nil_of_length_eq_zero (by omega)
      have HS : Hid (MaSt w w2 p a bs c (.slice av 0 cv) [] (z + 200)) := st2
      clear st2
      go_wp2
      go_ret2
      obtain ⟨z', q1, q2⟩ := HS.out.cur
      exact ⟨_, [], zs.length, rfl, by simp, hz1, HS.out.own, ⟨z', by omega, q2⟩, HS.out.far⟩

/-- Drawn marks and numbers. -/
def MkDraw (w : World) (v : Value) (ms : List Mk) (w' : World) : Prop := ms.length ≤ 31 ∧ w'.ownsRow w.heap.size 56 2 v ms.length (mkCells ms) ∧ Below w.heap.size w w'

set_option maxHeartbeats 1000000 in
theorem drawEnd_any (a : Option Addr) (c : Nat) (bs : List UInt8) (w : World) (hs : Bys w a bs) (hl : bs.length ≤ 1048576) :
    Calls Try.prog 24 #[.slice a bs.length c] w fun e w' => ∃ (v : Value) (ms : List Mk) (x y : Int), e = .returned (.tuple #[v, .int .i64 x, .int .i64 y]) ∧ MkDraw w v ms w' := by
  have hb : ∀ o, Below w.heap.size w (w.alloc o) := fun o => (Below.refl _ _).alloc (Nat.le_refl _) _
  have hC := cur_new (c := c) hs hl
  go_enter Try.func24, Try.ntmps24
  go_wp2_with fail
  refine (marks_any _ _ _ _ _ _ hC (by omega)).mono ?_
  rintro r w1 ⟨v, ms, n, rfl, hm, hn, st⟩
  obtain ⟨z6, hz6, C6⟩ := st.cur
  go_wp2_with fail
  refine (pick_any _ _ _ _ _ _ _ C6 (by omega)).mono ?_
  rintro r w2 ⟨x, rfl, hx, k2⟩
  have st2 := ma_draw st hz6 (by simp) k2
  have own := st2.own
  have hB := (hb _).trans st2.far.bel
  have hs1 := (hb (.cells #[.slice a bs.length c, .int .i64 0, .int .u64 0] 63)).size
  clear hC st C6 k2 st2
  go_wp2
  go_ret3
  exact ⟨v, ms, _, _, rfl, hm, ownsM_mono own hs1, hB⟩

set_option maxHeartbeats 1000000 in
theorem drawCut_any (a : Option Addr) (c : Nat) (bs : List UInt8) (w : World) (hs : Bys w a bs) (hl : bs.length ≤ 1048576) :
    Calls Try.prog 26 #[.slice a bs.length c] w fun e w' => ∃ (v : Value) (ms : List Mk) (x : Int), e = .returned (.tuple #[v, .int .i64 x]) ∧ MkDraw w v ms w' := by
  have hb : ∀ o, Below w.heap.size w (w.alloc o) := fun o => (Below.refl _ _).alloc (Nat.le_refl _) _
  have hC := cur_new (c := c) hs hl
  go_enter Try.func26, Try.ntmps26
  go_wp2_with fail
  refine (marks_any _ _ _ _ _ _ hC (by omega)).mono ?_
  rintro r w1 ⟨v, ms, n, rfl, hm, hn, st⟩
  obtain ⟨z6, hz6, C6⟩ := st.cur
  go_wp2_with fail
  refine (pick_any _ _ _ _ _ _ _ C6 (by omega)).mono ?_
  rintro r w2 ⟨x, rfl, hx, k2⟩
  have st2 := ma_draw st hz6 (by simp) k2
  have own := st2.own
  have hB := (hb _).trans st2.far.bel
  have hs1 := (hb (.cells #[.slice a bs.length c, .int .i64 0, .int .u64 0] 63)).size
  clear hC st C6 k2 st2
  go_wp2
  go_ret2
  exact ⟨v, ms, _, rfl, hm, ownsM_mono own hs1, hB⟩

set_option maxHeartbeats 1000000 in
theorem numberOf_any (a : Option Addr) (c : Nat) (bs : List UInt8) (w : World) (hs : Bys w a bs) (hl : bs.length ≤ 1048576) :
    Calls Try.prog 21 #[.slice a bs.length c] w fun e w' => ∃ n : Nat, e = .returned (.int .i64 (n : Int)) ∧ n < 1000003 ∧ w' = w := by
  go_enter Try.func21, Try.ntmps21
  go_wp2
  go_loop [3, 8] (fun nv i => ∃ k n : Nat, k ≤ bs.length ∧ i = .int .i64 (k : Int) ∧ nv = .int .i64 (n : Int) ∧ n < 1000003) (fun _ i => bs.length - (intOf i).toNat)
  case atStart => exact ⟨0, 0, Nat.zero_le _, rfl, rfl, by omega⟩
  case round =>
    obtain ⟨k, n, hk, rfl, rfl, hn⟩ := hrel
    by_cases hlt : k < bs.length
    · obtain ⟨b, off, rfl, hc⟩ := hs k _ (List.getElem?_eq_getElem hlt)
      obtain ⟨y, hy⟩ : ∃ y, bs[k].toNat = y := ⟨_, rfl⟩
      have hy2 : y ≤ 255 := by have := bs[k].toNat_lt; omega
      rw [hy] at hc
      have hyw : wrap64 (y : Int) = (y : Int) := by unfold wrap64; omega
      clear hs hy
      go_wp2
      go_round
      case rel => exact ⟨k + 1, (31 * n + y) % 1000003, by omega, by go_num, by go_num, Nat.mod_lt _ (by omega)⟩
      case measure => simp [intOf]; omega
    · clear hs
      go_wp2
      go_ret
      exact ⟨n, rfl, hn, rfl⟩

theorem mkNe_run (e s : Int) (w : World) : (binOp .neq 56 (.agg #[.int .i64 e, .int .i64 s]) (.agg #[.int .i64 e, .int .i64 s])).run Try.prog w = .ok (.bool false) w := by
  rw [run_neq_struct, show (10000 : Nat) = 9999 + 1 from rfl, run_equalIn_agg w 9999 56 _ _ (by kernel_rfl) (by kernel_rfl)]
  have u3 := Try.underlying3
  simp only [Program.fieldsOf, Try.underlying56]
  simp [Op.eqFields, part, isAgg, run_underlying u3, run_equalIn_int w _ 3 .i64 .i64 _ _ u3]

theorem mkGuard : Try.prog.eqGuardType Try.prog.depth 56 = false := by kernel_rfl

set_option maxHeartbeats 1000000 in
theorem sameMarks_same (a a2 : Option Addr) (c c2 : Nat) (fs : List Mk) (w : World) (hx : Mks w a fs) (hy : Mks w a2 fs) (hl : fs.length ≤ 1048576) :
    Calls Try.prog 19 #[.slice a fs.length c, .slice a2 fs.length c2] w fun e w' => e = .returned (.bool true) ∧ Below w.heap.size w w' := by
  have hne := mkNe_run
  have hgd := mkGuard
  go_enter Try.func19, Try.ntmps19
  go_wp2
  go_loopw [13] (fun i wr => ∃ k n : Nat, k ≤ fs.length ∧ i = .int .i64 k ∧ wr = w.drewN n) (fun i _ => fs.length - (intOf i).toNat)
  case atStart => exact ⟨0, 0, Nat.zero_le _, rfl, rfl⟩
  case round =>
    obtain ⟨k, n, hk, rfl, rfl⟩ := hrel
    by_cases hlt : k < fs.length
    · obtain ⟨b, hkb⟩ := getMk hlt
      obtain ⟨kb, ob, rfl, c0, c1⟩ := hx k b hkb
      obtain ⟨kb2, ob2, rfl, d0, d1⟩ := hy k b hkb
      clear hx hy hkb
      go_wp2
      go_quiet (fail)
      go_wp2
      go_roundw
      case rel => exact ⟨k + 1, n + nq, by omega, by go_num, by simp⟩
      case measure => simp [intOf]; omega
    · go_wp2
      go_ret
      exact ⟨rfl, below_drewN (Below.refl _ _) n⟩

end Go.Proofs.Ytgmcllfdhkjafaa
