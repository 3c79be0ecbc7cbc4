/-
  Groups as sets of members, the program's side: the contracts of impl.groupsFrom, meetsEach, allMeet, hasAllOfOne, isCoterie, eachHasOne.
-/
import Derived.Test.YtdibddkhjefmlaaDoorQImpl
import Derived.Test.YtdibddkhjefmlaaDoorQSpec
namespace Go.Proofs.YtdibddkhjefmlaaDoor
open Go.RowKit

def nCells (ns : List Nat) : List Value := ns.map fun (n : Nat) => Value.int .u64 ((n : Nat) : Int)
theorem nCells_app (xs ys : List Nat) : nCells (xs ++ ys) = nCells xs ++ nCells ys := by simp [nCells]

theorem Tryd.infoSet : (Tryd.prog.info? 56).map (fun i => (i.zero, i.size, i.bytes)) = some (some (.agg #[.int .u64 0]), 1, 8) := by kernel_rfl

theorem ownsQ_form {w : World} {B : Nat} {e : TypeId} {size : Nat} {v : Value} {n : Nat} {xs : List Value} (h : w.ownsRow B e size v n xs) : ∃ a cap, v = .slice a n cap ∧ n ≤ cap ∧ cap ≤ maxLen := by
  obtain ⟨-, ⟨rfl, rfl⟩ | ⟨g, cap, cur, rfl, -, -, hc, hm, -⟩⟩ := h
  · exact ⟨none, 0, rfl, Nat.le_refl _, by unfold maxLen; omega⟩
  · exact ⟨_, cap, rfl, hc, hm⟩

theorem ownsQ_below {w w' : World} {B : Nat} {e : TypeId} {size : Nat} {v : Value} {n : Nat} {xs : List Value} (h : w.ownsRow B e size v n xs) (hb : Below w.heap.size w w') : w'.ownsRow B e size v n xs := by
  obtain ⟨h1, h2 | ⟨g, cap, cur, hv, hg, hh, r⟩⟩ := h
  · exact ⟨h1, .inl h2⟩
  · have hlt := (Array.getElem?_eq_some_iff.1 hh).1
    exact ⟨h1, .inr ⟨g, cap, cur, hv, hg, (hb.block g hlt).trans hh, r⟩⟩

theorem row_of_ownsQ {w : World} {B : Nat} {t : TypeId} {size : Nat} {v : Value} {n : Nat} {xs : List Value} (h : w.ownsRow B t size v n xs) (hn : 0 < n) :
    ∃ g cap f, v = .slice (some ⟨g, 0, none⟩) n cap ∧ B ≤ g ∧ n ≤ cap ∧ w.rowIs g t (cap * size) f ∧ ∀ i, i < n * size → xs[i]? = some (f i) := by
  obtain ⟨h1, ⟨hv, h0⟩ | ⟨g, cap, cur, hv, hg, hh, hnc, hcap, hcs, ht⟩⟩ := h
  · omega
  · have hle : n * size ≤ cap * size := Nat.mul_le_mul_right _ hnc
    refine ⟨g, cap, fun j => cur.getD j undef, hv, hg, hnc, ⟨cur, hh, hcs, fun i hi => by simp [hcs, hi]⟩, fun i hi => ?_⟩
    rw [← ht, List.getElem?_take_of_lt hi]
    have : i < cur.size := by omega
    simp [this]

/-- Sets that a call owns read as such. -/
theorem sets_of_owns {w : World} {B : Nat} {a : Option Addr} {c : Nat} {ns : List Nat} (h : w.ownsRow B 56 1 (.slice a ns.length c) ns.length (nCells ns)) (hn : ∀ n ∈ ns, n < 128) : Sets w a ns := fun i n hi => by
  have hlt := (List.getElem?_eq_some_iff.1 hi).1
  obtain ⟨g, cap, f, hv, hg, hnc, hR, hx⟩ := row_of_ownsQ h (by omega)
  simp only [Value.slice.injEq] at hv
  obtain ⟨rfl, -, rfl⟩ := hv
  refine ⟨hn n (List.mem_of_getElem? hi), g, 0, rfl, ?_⟩
  have g0 : (nCells ns)[i]? = some (.int .u64 (n : Int)) := by simp [nCells, hi]
  rw [hx _ (by omega)] at g0
  rw [Nat.zero_add, hR.cell (by omega)]; exact g0

/-- While sets are gathered. -/
structure SetSt (w wr : World) (v : Value) (ns : List Nat) : Prop where
  own : wr.ownsRow w.heap.size 56 1 v ns.length (nCells ns)
  bel : Below w.heap.size w wr

theorem setst_below {w wr u : World} {v : Value} {ns : List Nat} (h : SetSt w wr v ns) (hb : Below wr.heap.size wr u) : SetSt w u v ns :=
  ⟨ownsQ_below h.own hb, h.bel.trans (hb.mono h.bel.size)⟩

theorem setst_step {w u w6 : World} {v : Value} {ns : List Nat} {q : Nat} {g2 cap2 : Nat} (h : SetSt w u v ns)
    (hgrow : u.grownBy w6 v.ownBlock) (hown : w6.ownsRow w.heap.size 56 1 (.slice (some ⟨g2, 0, none⟩) (ns.length + 1) cap2) (ns.length + 1) (nCells ns ++ nCells [q])) :
    SetSt w w6 (.slice (some ⟨g2, 0, none⟩) (ns.length + 1) cap2) (ns ++ [q]) := by
  refine ⟨?_, h.bel.grown hgrow (by have := h.bel.size; omega) (fun k hk => (h.own.lt k hk).1)⟩
  rw [nCells_app, List.length_append, List.length_singleton]
  exact hown

def mskL (L : List (List Int)) : List Nat := L.map msk
theorem mskL_lt {L : List (List Int)} {many : Int} (hm : many ≤ 7) (h : goodL L many = true) : ∀ n ∈ mskL L, n < 128 := fun n hn => by
  obtain ⟨zs, hz, rfl⟩ := List.mem_map.1 hn
  obtain ⟨i, hi⟩ := List.getElem?_of_mem hz
  have := ((goodL_t.1 h).1 i (List.getElem?_eq_some_iff.1 hi).1).2
  rw [lA_some hi] at this
  exact (mem7_msk hm this).2

/-- What groupsFrom answers. -/
def GrAns (w : World) (L : List (List Int)) (many : Int) (r : Ending) (w' : World) : Prop :=
  (goodL L many = false ∧ r = .returned (.tuple #[.slice none 0 0, .bool false]) ∧ Below w.heap.size w w') ∨
  (goodL L many = true ∧ ∃ a c, r = .returned (.tuple #[.slice a (mskL L).length c, .bool true]) ∧ (mskL L).length ≤ c ∧ c ≤ maxLen ∧ Sets w' a (mskL L) ∧ Below w.heap.size w w')

theorem run_make_capQ (n : Nat) (h : n ≤ 1048576) (w : World) :
    (Instr.makeSlice 50 (.int .i64 0) (.int .i64 (n : Int))).run Tryd.prog w = .ok (.slice (some ⟨w.heap.size, 0, none⟩) 0 n) (w.alloc (.cells (madeCells #[Value.int .u64 0] n) 56)) := by
  obtain ⟨i0, hi, hz0, hz1, hz2⟩ := info_parts Tryd.infoSet
  have hr := run_make (P := Tryd.prog) w 50 56 i0 _ Tryd.underlying50 hi hz0 .i64 .i64 0 (n : Int) (by omega) (by omega) (by rw [hz2]; omega) (by omega)
  simp only [Int.toNat_natCast, hz1, Nat.mul_one] at hr
  exact hr

set_option maxRecDepth 100000 in
set_option maxHeartbeats 2000000 in
theorem groupsFrom_any (a : Option Addr) (c : Nat) (L : List (List Int)) (many : Int) (w : World) (hs : Intss w a L) (hl : L.length ≤ maxLen) (hm : many ≤ 7) :
    Calls Tryd.prog 25 #[.slice a L.length c, .int .i64 many] w fun r w' => GrAns w L many r w' := by
  unfold maxLen at hl
  by_cases h40 : (40 : Int) < L.length
  · go_enter Tryd.func25, Tryd.ntmps25
    go_wp2
    go_ret2
    exact .inl ⟨by simp [goodL]; omega, rfl, Below.refl _ _⟩
  obtain ⟨i0, hi, hz0, hz1, hz2⟩ := info_parts Tryd.infoSet
  have hmk := run_make_capQ L.length (by omega)
  go_enter Tryd.func25, Tryd.ntmps25
  go_wp2
  have hB : ∀ o, Below w.heap.size w (w.alloc o) := fun o => (Below.refl _ _).alloc (Nat.le_refl _) o
  have hown : (w.alloc (.cells (madeCells #[Value.int .u64 0] L.length) 56)).ownsRow w.heap.size 56 1 (.slice (some ⟨w.heap.size, 0, none⟩) 0 L.length) 0 [] := World.ownsRow_made w _ L.length (Nat.le_refl _) (by unfold maxLen; omega) (by simp [size_madeCells])
  go_loopw [6, 19] (fun v i wr => ∃ k : Nat, k ≤ L.length ∧ i = .int .i64 (k : Int) ∧ grTo L many k ∧ SetSt w wr v (mskL (L.take k))) (fun _ i _ => L.length - (intOf i).toNat)
  case atStart => exact ⟨0, Nat.zero_le _, rfl, fun i hi => absurd hi (Nat.not_lt_zero _), by simpa [mskL, nCells] using hown, hB _⟩
  case round =>
    clear hown hB hmk
    obtain ⟨k, hk, rfl, hok, hst⟩ := hrel
    have HO : Hid (grTo L many k) := hok
    clear hok
    have hml : (mskL (L.take k)).length ≤ 40 := by simp [mskL]; omega
    by_cases hlt : k < L.length
    · obtain ⟨b, off, ai, ci, rfl, hc, hI, hzm⟩ := (hs.below hst.bel) k _ (lA_get hlt)
      clear hs
      obtain ⟨av, cv, rfl, hcv, hcm⟩ := ownsQ_form hst.own
      go_wp2_with fail
      refine (setFrom_any _ _ _ _ _ hI hzm hm).mono ?_
      rintro r w1 ⟨hr, hB1⟩
      have hst1 := setst_below hst hB1
      clear hI hc
      generalize hg : riseB (lA L k) many = g at hr
      have HG : Hid (riseB (lA L k) many = g) := hg
      clear hg
      cases g with
      | false =>
        rw [setR_f HG.out] at hr
        subst hr
        go_wp2
        go_ret2
        exact .inl ⟨goodL_bad hlt (fun h => by rw [HG.out] at h; cases h.2), rfl, hst1.bel.alloc (by have := hst1.bel.size; omega) _⟩
      | true =>
        rw [setR_t HG.out] at hr
        subst hr
        by_cases h0 : (lA L k).length = 0
        · have hz : (((lA L k).length : Int) == 0) = true := by simp [h0]
          have HB : Hid (goodL L many = false) := goodL_bad hlt (fun h => by omega)
          clear h0
          go_wp2
          go_ret2
          exact .inl ⟨HB.out, rfl, hst1.bel.alloc (by have := hst1.bel.size; omega) _⟩
        have hz : (((lA L k).length : Int) == 0) = false := by simp only [beq_eq_false_iff_ne]; omega
        have hp : 0 < (lA L k).length := by omega
        clear h0
        have hst2 : ∀ o p, SetSt w ((w1.alloc o).alloc p) (.slice av (mskL (L.take k)).length cv) (mskL (L.take k)) := fun o p => setst_below hst1 (((Below.refl _ _).alloc (Nat.le_refl _) o).alloc (by simp) p)
        have HN : Hid (mskL (L.take (k + 1)) = mskL (L.take k) ++ [msk (lA L k)]) := by show _ = _; rw [takeL_snoc (lA_get hlt)]; simp [mskL]
        have hsz := hst1.bel.size
        go_wp2_with (at_builtin; refine wpList_append_lies _ rfl _ _ 50 rfl w.heap.size 56 i0 _ 1 8 Tryd.underlying50 hi hz0 hz1 hz2 rfl (by decide) (.slice av (mskL (L.take k)).length cv) (mskL (L.take k)).length (nCells (mskL (L.take k))) rfl (hst2 _ _).own ⟨w1.heap.size + 1, 0, none⟩ 1 1 (nCells [msk (lA L k)]) rfl rfl ?c1 ?c2 (by omega) ?c3 ?c4 ?c5 (w1.heap.size + 2) ?c6 ?_)
        case c1 => exact World.news_of_block (cs := #[.int .u64 ((msk (lA L k) : Nat) : Int)]) (t := 56) (fr := (0, 0)) (by first | exact (heap_alloc_new (w1.alloc _) _) | simpa using (heap_alloc_new (w1.alloc _) _))
        case c2 => simp [nCells, Value.oneCell']
        case c3 => unfold maxLen; omega
        case c4 => omega
        case c5 => simp; omega
        case c6 => simp
        intro g4 cap4 w4 hown4 hgrow hat4 _
        have hst4 := setst_step (q := msk (lA L k)) (hst2 _ _) hgrow hown4
        have HS4 : Hid (SetSt w w4 (.slice (some ⟨g4, 0, none⟩) ((mskL (L.take k)).length + 1) cap4) (mskL (L.take k) ++ [msk (lA L k)])) := hst4
        clear hst4 hown4 hgrow hat4 hst2 hst hst1
        go_wp2_with fail
        go_roundw
        case rel => exact ⟨k + 1, by omega, by go_num, grTo_succ HO.out hp HG.out, by rw [HN.out]; exact HS4.out⟩
        case measure => simp [intOf]; omega
    · obtain rfl : k = L.length := by omega
      clear hs
      rw [List.take_length] at hst
      obtain ⟨av, cv, rfl, hcv, hcm⟩ := ownsQ_form hst.own
      go_wp2
      go_ret2
      have hg : goodL L many = true := goodL_t.2 ⟨HO.out, by omega⟩
      refine .inr ⟨hg, av, cv, rfl, hcv, hcm, sets_of_owns hst.own (mskL_lt hm hg), hst.bel⟩

end Go.Proofs.YtdibddkhjefmlaaDoor
