/-
  Marks that are gathered: spec.l4Marks, spec.MarksOf, impl.MarksOf; spec.CutMarks, impl.CutMarks: the same marks, in memory of the call's own.
-/
import Derived.Test.YtgmcllfdhkjafaaEpEnd
import Derived.Deep.AppendLies
namespace Go.Proofs.Ytgmcllfdhkjafaa
open Go.RowKit

def mkCells : List Mk → List Value
  | [] => []
  | m :: r => .int .i64 m.ep :: .int .i64 m.st :: mkCells r

theorem mkCells_app : ∀ xs ys : List Mk, mkCells (xs ++ ys) = mkCells xs ++ mkCells ys
  | [], ys => rfl
  | q :: r, ys => by simp [mkCells, mkCells_app r ys]

theorem mkCells_get : ∀ (ms : List Mk) (i : Nat) (q : Mk), ms[i]? = some q → (mkCells ms)[i * 2]? = some (.int .i64 q.ep) ∧ (mkCells ms)[i * 2 + 1]? = some (.int .i64 q.st)
  | [], i, q, h => by simp at h
  | p :: r, 0, q, h => by
    simp at h; subst h
    exact ⟨rfl, rfl⟩
  | p :: r, i + 1, q, h => by
    have := mkCells_get r i q (by simpa using h)
    have e1 : (i + 1) * 2 = i * 2 + 1 + 1 := by omega
    rw [e1]
    exact ⟨this.1, this.2⟩

theorem ownsM_form {w : World} {B : Nat} {e : TypeId} {size : Nat} {v : Value} {n : Nat} {xs : List Value} (h : w.ownsRow B e size v n xs) : ∃ a cap, v = .slice a n cap := by
  obtain ⟨-, ⟨rfl, rfl⟩ | ⟨g, cap, cur, rfl, -⟩⟩ := h
  · exact ⟨none, 0, rfl⟩
  · exact ⟨_, cap, rfl⟩

theorem ownsM_below {w w' : World} {B : Nat} {e : TypeId} {size : Nat} {v : Value} {n : Nat} {xs : List Value} (h : w.ownsRow B e size v n xs) (hb : Below w.heap.size w w') : w'.ownsRow B e size v n xs := by
  obtain ⟨h1, h2 | ⟨g, cap, cur, hv, hg, hh, r⟩⟩ := h
  · exact ⟨h1, .inl h2⟩
  · have hlt := (Array.getElem?_eq_some_iff.1 hh).1
    exact ⟨h1, .inr ⟨g, cap, cur, hv, hg, (hb.block g hlt).trans hh, r⟩⟩

theorem ownsM_mono {w : World} {B B' : Nat} {e : TypeId} {size : Nat} {v : Value} {n : Nat} {xs : List Value} (h : w.ownsRow B e size v n xs) (hB : B' ≤ B) : w.ownsRow B' e size v n xs := by
  obtain ⟨h1, h2 | ⟨g, cap, cur, hv, hg, r⟩⟩ := h
  · exact ⟨h1, .inl h2⟩
  · exact ⟨h1, .inr ⟨g, cap, cur, hv, by omega, r⟩⟩

theorem row_of_ownsM {w : World} {B : Nat} {t : TypeId} {size : Nat} {v : Value} {n : Nat} {xs : List Value} (h : w.ownsRow B t size v n xs) (hn : 0 < n) :
    ∃ g cap f, v = .slice (some ⟨g, 0, none⟩) n cap ∧ B ≤ g ∧ n ≤ cap ∧ w.rowIs g t (cap * size) f ∧ ∀ i, i < n * size → xs[i]? = some (f i) := by
  obtain ⟨h1, ⟨hv, h0⟩ | ⟨g, cap, cur, hv, hg, hh, hnc, hcap, hcs, ht⟩⟩ := h
  · omega
  · have hle : n * size ≤ cap * size := Nat.mul_le_mul_right _ hnc
    refine ⟨g, cap, fun j => cur.getD j undef, hv, hg, hnc, ⟨cur, hh, hcs, fun i hi => by simp [hcs, hi]⟩, fun i hi => ?_⟩
    rw [← ht, List.getElem?_take_of_lt hi]
    have : i < cur.size := by omega
    simp [this]

/-- Marks that a call owns read as such, and may be written. -/
theorem mks_of_owns {w : World} {B : Nat} {a : Option Addr} {c : Nat} {ms : List Mk} (h : w.ownsRow B 56 2 (.slice a ms.length c) ms.length (mkCells ms)) : Mks w a ms ∧ RowM w B a ms.length := by
  by_cases h0 : ms.length = 0
  · obtain rfl : ms = [] := List.eq_nil_of_length_eq_zero h0
    exact ⟨Mks.nil _ _, .inl rfl⟩
  · obtain ⟨g, cap, f, hv, hg, hn, hR, hx⟩ := row_of_ownsM h (by omega)
    simp only [Value.slice.injEq] at hv
    obtain ⟨rfl, -, rfl⟩ := hv
    refine ⟨fun i b hi => ?_, .inr ⟨g, _, f, rfl, hg, Nat.mul_le_mul_right _ hn, hR⟩⟩
    have hlt := (List.getElem?_eq_some_iff.1 hi).1
    obtain ⟨g0, g1⟩ := mkCells_get ms i b hi
    rw [hx _ (by omega)] at g0 g1
    have hle := Nat.mul_le_mul_right 2 hn
    refine ⟨g, 0, rfl, ?_, ?_⟩
    · rw [Nat.zero_add, hR.cell (by omega)]; exact g0
    · rw [Nat.zero_add, hR.cell (by omega)]; exact g1

def marksTo (zs : List Int) : Nat → List Mk
  | 0 => []
  | k + 1 => if k = 0 ∨ zA zs (k - 1) ≠ zA zs k then marksTo zs k ++ [⟨zA zs k, k⟩] else marksTo zs k
def marksL (zs : List Int) : List Mk := marksTo zs zs.length

theorem marksTo_len (zs : List Int) : ∀ k, (marksTo zs k).length ≤ k
  | 0 => Nat.le_refl _
  | k + 1 => by
    have := marksTo_len zs k
    unfold marksTo
    split
    · simp; omega
    · omega

theorem marksTo_add {zs : List Int} {k : Nat} (h : k = 0 ∨ zA zs (k - 1) ≠ zA zs k) : marksTo zs (k + 1) = marksTo zs k ++ [⟨zA zs k, k⟩] := by
  rw [marksTo, if_pos h]
theorem marksTo_same {zs : List Int} {k : Nat} (h : ¬ (k = 0 ∨ zA zs (k - 1) ≠ zA zs k)) : marksTo zs (k + 1) = marksTo zs k := by
  rw [marksTo, if_neg h]

/-- While marks are gathered. -/
structure MkSt (w wr : World) (v : Value) (ms : List Mk) : Prop where
  own : wr.ownsRow w.heap.size 56 2 v ms.length (mkCells ms)
  bel : Below w.heap.size w wr

theorem mkst_start (w : World) : MkSt w w (.slice none 0 0) [] := ⟨World.ownsRow_nil _ _ _ _, Below.refl _ _⟩

theorem mkst_below {w wr u : World} {v : Value} {ms : List Mk} (h : MkSt w wr v ms) (hb : Below wr.heap.size wr u) : MkSt w u v ms :=
  ⟨ownsM_below h.own hb, h.bel.trans (hb.mono h.bel.size)⟩

theorem mkst_step {w u w6 : World} {v : Value} {ms : List Mk} {q : Mk} {g2 cap2 : Nat} (h : MkSt w u v ms)
    (hgrow : u.grownBy w6 v.ownBlock) (hown : w6.ownsRow w.heap.size 56 2 (.slice (some ⟨g2, 0, none⟩) (ms.length + 1) cap2) (ms.length + 1) (mkCells ms ++ mkCells [q])) :
    MkSt w w6 (.slice (some ⟨g2, 0, none⟩) (ms.length + 1) cap2) (ms ++ [q]) := by
  refine ⟨?_, h.bel.grown hgrow (by have := h.bel.size; omega) (fun k hk => (h.own.lt k hk).1)⟩
  rw [mkCells_app, List.length_append, List.length_singleton]
  exact hown

abbrev mkArr (q : Mk) : Array Value := #[.int .i64 q.ep, .int .i64 q.st]

theorem mkst_ans {w wr : World} {v : Value} {ms : List Mk} (h : MkSt w wr v ms) : ∃ a' c', v = .slice a' ms.length c' ∧ Mks wr a' ms ∧ RowM wr w.heap.size a' ms.length ∧ Below w.heap.size w wr := by
  obtain ⟨a, c, rfl⟩ := ownsM_form h.own
  have := mks_of_owns h.own
  exact ⟨a, c, rfl, this.1, this.2, h.bel⟩

set_option maxRecDepth 100000 in
set_option maxHeartbeats 2000000 in
theorem l4Marks_any (a : Option Addr) (c : Nat) (zs : List Int) (w : World) (hs : Ints w a zs) (hl : zs.length ≤ 30) :
    Calls Try.prog 35 #[.slice a zs.length c] w fun e w' => ∃ v, e = .returned v ∧ MkSt w w' v (marksL zs) := by
  obtain ⟨i0, hi, hz0, hz1, hz2⟩ := info_parts Try.infoMark
  go_enter Try.func35, Try.ntmps35
  go_wp2
  go_loopw [3, 8] (fun v i wr => ∃ k : Nat, k ≤ zs.length ∧ i = .int .i64 (k : Int) ∧ MkSt w wr v (marksTo zs k)) (fun _ i _ => zs.length - (intOf i).toNat)
  case atStart => exact ⟨0, Nat.zero_le _, rfl, mkst_start w⟩
  case round =>
    obtain ⟨k, hk, rfl, hst⟩ := hrel
    have hml := marksTo_len zs k
    by_cases hlt : k < zs.length
    · have hs1 := hs.below hst.bel
      obtain ⟨b, off, rfl, hc⟩ := hs1 k _ (zA_get hlt)
      obtain ⟨av, cv, rfl⟩ := ownsM_form hst.own
      have hst2 : ∀ o, MkSt w (wr.alloc o) (.slice av (marksTo zs k).length cv) (marksTo zs k) := fun o => mkst_below hst ((Below.refl _ _).alloc (Nat.le_refl _) o)
      rcases Nat.eq_zero_or_pos k with h0 | h0
      · subst h0
        rw [Nat.add_zero] at hc
        have HN : Hid (marksTo zs (0 + 1) = marksTo zs 0 ++ [⟨zA zs 0, 0⟩]) := marksTo_add (.inl rfl)
        clear hs hs1
        go_wp2_with (at_builtin; refine wpList_append_lies _ rfl _ _ 36 rfl w.heap.size 56 i0 _ 2 16 Try.underlying36 hi hz0 hz1 hz2 rfl (by decide) (.slice av (marksTo zs 0).length cv) (marksTo zs 0).length (mkCells (marksTo zs 0)) rfl (hst2 _).own ⟨wr.heap.size, 0, none⟩ 1 1 (mkCells [⟨zA zs 0, 0⟩]) rfl rfl ?c1 ?c2 (by omega) ?c3 ?c4 ?c5 (wr.heap.size + 1) ?c6 ?_)
        case c1 => exact World.news_of_block (cs := mkArr ⟨zA zs 0, 0⟩) (t := 56) (fr := (0, 0)) (by first | exact (heap_alloc_new wr _) | simpa using (heap_alloc_new wr _))
        case c2 => simp [mkCells, Value.oneCell']
        case c3 => unfold maxLen; omega
        case c4 => omega
        case c5 => have := hst.bel.size; simp; omega
        case c6 => simp
        intro g4 cap4 w4 hown4 hgrow hat4 _
        have hst4 := mkst_step (q := ⟨zA zs 0, 0⟩) (hst2 _) hgrow hown4
        have HS4 : Hid (MkSt w w4 (.slice (some ⟨g4, 0, none⟩) ((marksTo zs 0).length + 1) cap4) (marksTo zs 0 ++ [⟨zA zs 0, 0⟩])) := hst4
        clear hst4 hown4 hgrow hat4 hst2 hst
        go_wp2_with fail
        go_roundw
        case rel => exact ⟨1, by omega, rfl, by have e := HN.out; rw [Nat.zero_add] at e; rw [e]; exact HS4.out⟩
        case measure => simp [intOf]; omega
      · obtain ⟨j, rfl⟩ : ∃ j, k = j + 1 := ⟨k - 1, by omega⟩
        obtain ⟨b', off', e', hc'⟩ := hs1 j _ (zA_get (by omega))
        simp only [Option.some.injEq, Addr.mk.injEq, and_true] at e'
        obtain ⟨rfl, rfl⟩ := e'
        have hz : (((j + 1 : Nat) : Int) == 0) = false := by simp; omega
        have hj1 : ((j + 1 : Nat) : Int) - 1 = (j : Int) := by omega
        have hj0 : (0 : Int) ≤ (j : Int) := by omega
        clear hs hs1
        by_cases hne : zA zs j = zA zs (j + 1)
        · have HN : Hid (marksTo zs (j + 1 + 1) = marksTo zs (j + 1)) := marksTo_same (by simp [hne])
          have hbe : (zA zs j != zA zs (j + 1)) = false := by simp [hne]
          have HS : Hid (MkSt w wr (.slice av (marksTo zs (j + 1)).length cv) (marksTo zs (j + 1))) := hst
          clear hne hst hst2
          go_wp2
          go_roundw
          case rel => exact ⟨j + 1 + 1, by omega, by go_num, by rw [HN.out]; exact HS.out⟩
          case measure => simp [intOf]; omega
        · have HN : Hid (marksTo zs (j + 1 + 1) = marksTo zs (j + 1) ++ [⟨zA zs (j + 1), ((j + 1 : Nat) : Int)⟩]) := marksTo_add (.inr (by simpa using hne))
          have hbe : (zA zs j != zA zs (j + 1)) = true := by simp; omega
          clear hne
          go_wp2_with (at_builtin; refine wpList_append_lies _ rfl _ _ 36 rfl w.heap.size 56 i0 _ 2 16 Try.underlying36 hi hz0 hz1 hz2 rfl (by decide) (.slice av (marksTo zs (j + 1)).length cv) (marksTo zs (j + 1)).length (mkCells (marksTo zs (j + 1))) rfl (hst2 _).own ⟨wr.heap.size, 0, none⟩ 1 1 (mkCells [⟨zA zs (j + 1), ((j + 1 : Nat) : Int)⟩]) rfl rfl ?c1 ?c2 (by omega) ?c3 ?c4 ?c5 (wr.heap.size + 1) ?c6 ?_)
          case c1 => exact World.news_of_block (cs := mkArr ⟨zA zs (j + 1), ((j + 1 : Nat) : Int)⟩) (t := 56) (fr := (0, 0)) (by first | exact (heap_alloc_new wr _) | simpa using (heap_alloc_new wr _))
          case c2 => simp [mkCells, Value.oneCell']
          case c3 => unfold maxLen; omega
          case c4 => omega
          case c5 => have := hst.bel.size; simp; omega
          case c6 => simp
          intro g4 cap4 w4 hown4 hgrow hat4 _
          have hst4 := mkst_step (q := ⟨zA zs (j + 1), ((j + 1 : Nat) : Int)⟩) (hst2 _) hgrow hown4
          have HS4 : Hid (MkSt w w4 (.slice (some ⟨g4, 0, none⟩) ((marksTo zs (j + 1)).length + 1) cap4) (marksTo zs (j + 1) ++ [⟨zA zs (j + 1), ((j + 1 : Nat) : Int)⟩])) := hst4
          clear hst4 hown4 hgrow hat4 hst2 hst
          go_wp2_with fail
          go_roundw
          case rel => exact ⟨j + 1 + 1, by omega, by go_num, by rw [HN.out]; exact HS4.out⟩
          case measure => simp [intOf]; omega
    · obtain rfl : k = zs.length := by omega
      clear hs
      go_wp2
      go_ret
      exact ⟨_, rfl, hst⟩

def moL (zs : List Int) : List Mk := if goodE zs then marksL zs else []
def MoAns (w : World) (ms : List Mk) (ok : Bool) (e : Ending) (w' : World) : Prop := ∃ v, e = .returned (.tuple #[v, .bool ok]) ∧ MkSt w w' v ms

set_option maxRecDepth 100000 in
set_option maxHeartbeats 2000000 in
theorem specMO_any (a : Option Addr) (c : Nat) (zs : List Int) (w : World) (hs : Ints w a zs) (hl : zs.length ≤ maxLen) :
    Calls Try.prog 18 #[.slice a zs.length c] w fun e w' => MoAns w (moL zs) (goodE zs) e w' := by
  cases hg : goodE zs with
  | false =>
    have HM : Hid (moL zs = []) := by show _ = _; unfold moL; rw [hg]; rfl
    have HG : Hid (goodE zs = false) := hg
    rw [HM.out]
    clear hg
    go_enter Try.func18, Try.ntmps18
    go_wp2_with fail
    refine (specGoodE_any _ _ _ _ hs hl).mono ?_
    rintro r w1 ⟨hr, rfl⟩
    rw [HG.out] at hr; subst hr
    go_wp2
    go_ret2
    exact ⟨_, rfl, mkst_start _⟩
  | true =>
    have HM : Hid (moL zs = marksL zs) := by show _ = _; unfold moL; rw [hg]; rfl
    have h30 := (goodE_t.1 hg).1
    have HG : Hid (goodE zs = true) := hg
    rw [HM.out]
    clear hg
    go_enter Try.func18, Try.ntmps18
    go_wp2_with fail
    refine (specGoodE_any _ _ _ _ hs hl).mono ?_
    rintro r w1 ⟨hr, rfl⟩
    rw [HG.out] at hr; subst hr
    go_wp2_with fail
    refine (l4Marks_any _ _ _ _ hs h30).mono ?_
    rintro r w2 ⟨v, rfl, hst⟩
    have HS : Hid (MkSt w1 w2 v (marksL zs)) := hst
    clear hst
    go_wp2
    go_ret2
    exact ⟨_, rfl, HS.out⟩

set_option maxRecDepth 100000 in
set_option maxHeartbeats 2000000 in
theorem implMO_any (a : Option Addr) (c : Nat) (zs : List Int) (w : World) (hs : Ints w a zs) (hlm : zs.length ≤ maxLen) :
    Calls Try.prog 17 #[.slice a zs.length c] w fun e w' => MoAns w (moL zs) (goodE zs) e w' := by
  cases hg : goodE zs with
  | false =>
    have HM : Hid (moL zs = []) := by show _ = _; unfold moL; rw [hg]; rfl
    have HG : Hid (goodE zs = false) := hg
    rw [HM.out]
    clear hg
    go_enter Try.func17, Try.ntmps17
    go_wp2_with fail
    refine (implGoodE_any _ _ _ _ hs hlm).mono ?_
    rintro r w1 ⟨hr, rfl⟩
    rw [HG.out] at hr; subst hr
    go_wp2
    go_ret2
    exact ⟨_, rfl, mkst_start _⟩
  | true =>
  have HM : Hid (moL zs = marksL zs) := by show _ = _; unfold moL; rw [hg]; rfl
  have hl := (goodE_t.1 hg).1
  have HG : Hid (goodE zs = true) := hg
  rw [HM.out]
  clear hg
  obtain ⟨i0, hi, hz0, hz1, hz2⟩ := info_parts Try.infoMark
  go_enter Try.func17, Try.ntmps17
  go_wp2_with fail
  refine (implGoodE_any _ _ _ _ hs hlm).mono ?_
  rintro r w1 ⟨hr, hw1⟩
  rw [HG.out] at hr; subst hr
  rw [hw1]
  clear hw1 w1
  go_wp2
  go_loopw [4, 12] (fun v i wr => ∃ k : Nat, k ≤ zs.length ∧ i = .int .i64 (k : Int) ∧ MkSt w wr v (marksTo zs k)) (fun _ i _ => zs.length - (intOf i).toNat)
  case atStart => exact ⟨0, Nat.zero_le _, rfl, mkst_start w⟩
  case round =>
    obtain ⟨k, hk, rfl, hst⟩ := hrel
    have hml := marksTo_len zs k
    by_cases hlt : k < zs.length
    · have hs1 := hs.below hst.bel
      obtain ⟨b, off, rfl, hc⟩ := hs1 k _ (zA_get hlt)
      obtain ⟨av, cv, rfl⟩ := ownsM_form hst.own
      have hst2 : ∀ o, MkSt w (wr.alloc o) (.slice av (marksTo zs k).length cv) (marksTo zs k) := fun o => mkst_below hst ((Below.refl _ _).alloc (Nat.le_refl _) o)
      rcases Nat.eq_zero_or_pos k with h0 | h0
      · subst h0
        rw [Nat.add_zero] at hc
        have HN : Hid (marksTo zs (0 + 1) = marksTo zs 0 ++ [⟨zA zs 0, 0⟩]) := marksTo_add (.inl rfl)
        clear hs hs1
        go_wp2_with (at_builtin; refine wpList_append_lies _ rfl _ _ 36 rfl w.heap.size 56 i0 _ 2 16 Try.underlying36 hi hz0 hz1 hz2 rfl (by decide) (.slice av (marksTo zs 0).length cv) (marksTo zs 0).length (mkCells (marksTo zs 0)) rfl (hst2 _).own ⟨wr.heap.size, 0, none⟩ 1 1 (mkCells [⟨zA zs 0, 0⟩]) rfl rfl ?c1 ?c2 (by omega) ?c3 ?c4 ?c5 (wr.heap.size + 1) ?c6 ?_)
        case c1 => exact World.news_of_block (cs := mkArr ⟨zA zs 0, 0⟩) (t := 56) (fr := (0, 0)) (by first | exact (heap_alloc_new wr _) | simpa using (heap_alloc_new wr _))
        case c2 => simp [mkCells, Value.oneCell']
        case c3 => unfold maxLen; omega
        case c4 => omega
        case c5 => have := hst.bel.size; simp; omega
        case c6 => simp
        intro g4 cap4 w4 hown4 hgrow hat4 _
        have hst4 := mkst_step (q := ⟨zA zs 0, 0⟩) (hst2 _) hgrow hown4
        have HS4 : Hid (MkSt w w4 (.slice (some ⟨g4, 0, none⟩) ((marksTo zs 0).length + 1) cap4) (marksTo zs 0 ++ [⟨zA zs 0, 0⟩])) := hst4
        clear hst4 hown4 hgrow hat4 hst2 hst
        go_wp2_with fail
        go_roundw
        case rel => exact ⟨1, by omega, rfl, by have e := HN.out; rw [Nat.zero_add] at e; rw [e]; exact HS4.out⟩
        case measure => simp [intOf]; omega
      · obtain ⟨j, rfl⟩ : ∃ j, k = j + 1 := ⟨k - 1, by omega⟩
        obtain ⟨b', off', e', hc'⟩ := hs1 j _ (zA_get (by omega))
        simp only [Option.some.injEq, Addr.mk.injEq, and_true] at e'
        obtain ⟨rfl, rfl⟩ := e'
        have hz : (((j + 1 : Nat) : Int) == 0) = false := by simp; omega
        have hj1 : ((j + 1 : Nat) : Int) - 1 = (j : Int) := by omega
        have hj0 : (0 : Int) ≤ (j : Int) := by omega
        clear hs hs1
        by_cases hne : zA zs j = zA zs (j + 1)
        · have HN : Hid (marksTo zs (j + 1 + 1) = marksTo zs (j + 1)) := marksTo_same (by simp [hne])
          have hbe : (zA zs (j + 1) != zA zs j) = false := by simp [hne]
          have HS : Hid (MkSt w wr (.slice av (marksTo zs (j + 1)).length cv) (marksTo zs (j + 1))) := hst
          clear hne hst hst2
          go_wp2
          go_roundw
          case rel => exact ⟨j + 1 + 1, by omega, by go_num, by rw [HN.out]; exact HS.out⟩
          case measure => simp [intOf]; omega
        · have HN : Hid (marksTo zs (j + 1 + 1) = marksTo zs (j + 1) ++ [⟨zA zs (j + 1), ((j + 1 : Nat) : Int)⟩]) := marksTo_add (.inr (by simpa using hne))
          have hbe : (zA zs (j + 1) != zA zs j) = true := by simp; omega
          clear hne
          go_wp2_with (at_builtin; refine wpList_append_lies _ rfl _ _ 36 rfl w.heap.size 56 i0 _ 2 16 Try.underlying36 hi hz0 hz1 hz2 rfl (by decide) (.slice av (marksTo zs (j + 1)).length cv) (marksTo zs (j + 1)).length (mkCells (marksTo zs (j + 1))) rfl (hst2 _).own ⟨wr.heap.size, 0, none⟩ 1 1 (mkCells [⟨zA zs (j + 1), ((j + 1 : Nat) : Int)⟩]) rfl rfl ?c1 ?c2 (by omega) ?c3 ?c4 ?c5 (wr.heap.size + 1) ?c6 ?_)
          case c1 => exact World.news_of_block (cs := mkArr ⟨zA zs (j + 1), ((j + 1 : Nat) : Int)⟩) (t := 56) (fr := (0, 0)) (by first | exact (heap_alloc_new wr _) | simpa using (heap_alloc_new wr _))
          case c2 => simp [mkCells, Value.oneCell']
          case c3 => unfold maxLen; omega
          case c4 => omega
          case c5 => have := hst.bel.size; simp; omega
          case c6 => simp
          intro g4 cap4 w4 hown4 hgrow hat4 _
          have hst4 := mkst_step (q := ⟨zA zs (j + 1), ((j + 1 : Nat) : Int)⟩) (hst2 _) hgrow hown4
          have HS4 : Hid (MkSt w w4 (.slice (some ⟨g4, 0, none⟩) ((marksTo zs (j + 1)).length + 1) cap4) (marksTo zs (j + 1) ++ [⟨zA zs (j + 1), ((j + 1 : Nat) : Int)⟩])) := hst4
          clear hst4 hown4 hgrow hat4 hst2 hst
          go_wp2_with fail
          go_roundw
          case rel => exact ⟨j + 1 + 1, by omega, by go_num, by rw [HN.out]; exact HS4.out⟩
          case measure => simp [intOf]; omega
    · obtain rfl : k = zs.length := by omega
      clear hs
      go_wp2
      go_ret2
      exact ⟨_, rfl, hst⟩

end Go.Proofs.Ytgmcllfdhkjafaa
