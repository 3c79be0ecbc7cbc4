/-
  Marks that are cut: spec.CutMarks and impl.CutMarks answer the same marks, in memory of the call's own.
-/
import Derived.Test.YtgmcllfdhkjafaaMkApp
namespace Go.Proofs.Ytgmcllfdhkjafaa
open Go.RowKit

def cutTo (m : List Mk) (at_ : Int) (k : Nat) : List Mk := (m.take k).filter fun x => decide (x.st < at_)
def cmL (m : List Mk) (at_ : Int) : List Mk := if goodM m && inB at_ 0 30 then cutTo m at_ m.length else []
def cmOk (m : List Mk) (at_ : Int) : Bool := goodM m && inB at_ 0 30

theorem cutTo_len (m : List Mk) (at_ : Int) (k : Nat) : (cutTo m at_ k).length ≤ k :=
  Nat.le_trans (List.length_filter_le _ _) (List.length_take_le _ _)
theorem cutTo_add {m : List Mk} {at_ : Int} {k : Nat} (hk : k < m.length) (h : (mA m k).st < at_) : cutTo m at_ (k + 1) = cutTo m at_ k ++ [mA m k] := by
  unfold cutTo; rw [takeMk_snoc (mA_get hk), List.filter_append]; simp [h]
theorem cutTo_same {m : List Mk} {at_ : Int} {k : Nat} (hk : k < m.length) (h : ¬ (mA m k).st < at_) : cutTo m at_ (k + 1) = cutTo m at_ k := by
  unfold cutTo; rw [takeMk_snoc (mA_get hk), List.filter_append]; simp [h]

theorem mkst_mono {w0 w wr : World} {v : Value} {ms : List Mk} (h : MkSt w wr v ms) (hb : Below w0.heap.size w0 w) : MkSt w0 wr v ms :=
  ⟨ownsM_mono h.own hb.size, hb.trans (h.bel.mono hb.size)⟩

set_option maxRecDepth 100000 in
set_option maxHeartbeats 2000000 in
theorem specCM_any (a : Option Addr) (c : Nat) (m : List Mk) (at_ : Int) (w0 : World) (hs : Mks w0 a m) (hlm : m.length ≤ maxLen) :
    Calls Try.prog 27 #[.slice a m.length c, .int .i64 at_] w0 fun e w' => MoAns w0 (cmL m at_) (cmOk m at_) e w' := by
  cases hg : goodM m with
  | false =>
    have HM : Hid (cmL m at_ = [] ∧ cmOk m at_ = false) := by show _ ∧ _; unfold cmL cmOk; rw [hg]; exact ⟨rfl, rfl⟩
    have HG : Hid (goodM m = false) := hg
    rw [HM.out.1, HM.out.2]
    clear hg
    go_enter Try.func27, Try.ntmps27
    go_wp2_with fail
    refine (specGoodM_any _ _ _ _ hs hlm).mono ?_
    rintro r w1 ⟨hr, hB1⟩
    rw [HG.out] at hr; subst hr
    go_wp2
    go_ret2
    exact ⟨_, rfl, mkst_below (mkst_start _) hB1⟩
  | true =>
  have HG : Hid (goodM m = true) := hg
  have hl := (goodM_t.1 hg).1
  cases hb : inB at_ 0 30 with
  | false =>
    have HM : Hid (cmL m at_ = [] ∧ cmOk m at_ = false) := by show _ ∧ _; unfold cmL cmOk; rw [hg, hb]; exact ⟨rfl, rfl⟩
    rw [HM.out.1, HM.out.2]
    clear hg
    go_enter Try.func27, Try.ntmps27
    go_wp2_with fail
    refine (specGoodM_any _ _ _ _ hs hlm).mono ?_
    rintro r w1 ⟨hr, hB1⟩
    rw [HG.out] at hr; subst hr
    go_wp2_with (go_at_call 33; refine (l1In_any _ _ _ _).mono ?_; rintro e w1 ⟨rfl, hw1⟩; rw [hw1]; clear hw1 w1)
    go_ret2
    exact ⟨_, rfl, mkst_below (mkst_start _) hB1⟩
  | true =>
  have HM : Hid (cmL m at_ = cutTo m at_ m.length ∧ cmOk m at_ = true) := by show _ ∧ _; unfold cmL cmOk; rw [hg, hb]; exact ⟨rfl, rfl⟩
  rw [HM.out.1, HM.out.2]
  clear hg
  obtain ⟨i0, hi, hz0, hz1, hz2⟩ := info_parts Try.infoMark
  go_enter Try.func27, Try.ntmps27
  go_wp2_with fail
  refine (specGoodM_any _ _ _ _ hs hlm).mono ?_
  rintro r w ⟨hr, hBw⟩
  rw [HG.out] at hr; subst hr
  replace hs := hs.below hBw
  go_wp2_with (go_at_call 33; refine (l1In_any _ _ _ _).mono ?_; rintro e w1 ⟨rfl, hw1⟩; rw [hw1]; clear hw1 w1)
  go_loopw [6, 19] (fun v i wr => ∃ k : Nat, k ≤ m.length ∧ i = .int .i64 (k : Int) ∧ MkSt w wr v (cutTo m at_ k)) (fun _ i _ => m.length - (intOf i).toNat)
  case atStart => exact ⟨0, Nat.zero_le _, rfl, mkst_start w⟩
  case round =>
    obtain ⟨k, hk, rfl, hst⟩ := hrel
    have hml := cutTo_len m at_ k
    by_cases hlt : k < m.length
    · obtain ⟨b, off, rfl, c0, c1⟩ := (hs.below hst.bel) k _ (mA_get hlt)
      obtain ⟨av, cv, rfl⟩ := ownsM_form hst.own
      have ha : ∀ (u : World) o, Below u.heap.size u (u.alloc o) := fun u o => (Below.refl _ _).alloc (Nat.le_refl _) o
      have hst2 : ∀ o p, MkSt w ((wr.alloc o).alloc p) (.slice av (cutTo m at_ k).length cv) (cutTo m at_ k) := fun o p => mkst_below (mkst_below hst (ha _ _)) (ha _ _)
      have hst1 : ∀ o, MkSt w (wr.alloc o) (.slice av (cutTo m at_ k).length cv) (cutTo m at_ k) := fun o => mkst_below hst (ha _ _)
      clear hs
      by_cases hlt2 : (mA m k).st < at_
      · have HN : Hid (cutTo m at_ (k + 1) = cutTo m at_ k ++ [mA m k]) := cutTo_add hlt hlt2
        clear hst1
        go_wp2_with (at_builtin; refine wpList_append_lies _ rfl _ _ 36 rfl w.heap.size 56 i0 _ 2 16 Try.underlying36 hi hz0 hz1 hz2 rfl (by decide) (.slice av (cutTo m at_ k).length cv) (cutTo m at_ k).length (mkCells (cutTo m at_ k)) rfl (hst2 _ _).own ⟨wr.heap.size + 1, 0, none⟩ 1 1 (mkCells [(mA m k)]) rfl rfl ?c1 ?c2 (by omega) ?c3 ?c4 ?c5 (wr.heap.size + 1 + 1) ?c6 ?_)
        case c1 => exact World.news_of_block (cs := mkArr (mA m k)) (t := 56) (fr := (0, 0)) (by first | exact (heap_alloc_new (wr.alloc _) _) | simpa using (heap_alloc_new (wr.alloc _) _))
        case c2 => simp [mkCells, Value.oneCell']
        case c3 => unfold maxLen; omega
        case c4 => omega
        case c5 => have := hst.bel.size; simp; omega
        case c6 => simp
        intro g4 cap4 w4 hown4 hgrow hat4 _
        have hst4 := mkst_step (q := (mA m k)) (hst2 _ _) hgrow hown4
        have HS4 : Hid (MkSt w w4 (.slice (some ⟨g4, 0, none⟩) ((cutTo m at_ k).length + 1) cap4) (cutTo m at_ k ++ [(mA m k)])) := hst4
        clear hst4 hown4 hgrow hat4 hst2 hst
        go_wp2_with fail
        go_roundw
        case rel => exact ⟨k + 1, by omega, by go_num, by rw [HN.out]; exact HS4.out⟩
        case measure => simp [intOf]; omega
      · have HN : Hid (cutTo m at_ (k + 1) = cutTo m at_ k) := cutTo_same hlt hlt2
        have HS : Hid (∀ o, MkSt w (wr.alloc o) (.slice av (cutTo m at_ k).length cv) (cutTo m at_ k)) := hst1
        clear hst hst1 hst2
        go_wp2
        go_roundw
        case rel => exact ⟨k + 1, by omega, by go_num, by rw [HN.out]; exact HS.out _⟩
        case measure => simp [intOf]; omega
    · obtain rfl : k = m.length := by omega
      clear hs
      go_wp2
      go_ret2
      exact ⟨_, rfl, mkst_mono hst hBw⟩

set_option maxRecDepth 100000 in
set_option maxHeartbeats 2000000 in
theorem implCM_any (a : Option Addr) (c : Nat) (m : List Mk) (at_ : Int) (w0 : World) (hs : Mks w0 a m) (hlm : m.length ≤ maxLen) :
    Calls Try.prog 22 #[.slice a m.length c, .int .i64 at_] w0 fun e w' => MoAns w0 (cmL m at_) (cmOk m at_) e w' := by
  cases hg : goodM m with
  | false =>
    have HM : Hid (cmL m at_ = [] ∧ cmOk m at_ = false) := by show _ ∧ _; unfold cmL cmOk; rw [hg]; exact ⟨rfl, rfl⟩
    have HG : Hid (goodM m = false) := hg
    rw [HM.out.1, HM.out.2]
    clear hg
    go_enter Try.func22, Try.ntmps22
    go_wp2_with fail
    refine (implGoodM_any _ _ _ _ hs hlm).mono ?_
    rintro r w1 ⟨hr, hB1⟩
    rw [HG.out] at hr; subst hr
    go_wp2
    go_ret2
    exact ⟨_, rfl, mkst_below (mkst_start _) hB1⟩
  | true =>
  have HG : Hid (goodM m = true) := hg
  have hl := (goodM_t.1 hg).1
  cases hb : inB at_ 0 30 with
  | false =>
    have HM : Hid (cmL m at_ = [] ∧ cmOk m at_ = false) := by show _ ∧ _; unfold cmL cmOk; rw [hg, hb]; exact ⟨rfl, rfl⟩
    rw [HM.out.1, HM.out.2]
    clear hg
    go_enter Try.func22, Try.ntmps22
    go_wp2_with fail
    refine (implGoodM_any _ _ _ _ hs hlm).mono ?_
    rintro r w1 ⟨hr, hB1⟩
    rw [HG.out] at hr; subst hr
    go_wp2_with (go_at_call 36; refine (within_any _ _ _).mono ?_; rintro e w1 ⟨rfl, hw1⟩; rw [hw1]; clear hw1 w1)
    go_ret2
    exact ⟨_, rfl, mkst_below (mkst_start _) hB1⟩
  | true =>
  have HM : Hid (cmL m at_ = cutTo m at_ m.length ∧ cmOk m at_ = true) := by show _ ∧ _; unfold cmL cmOk; rw [hg, hb]; exact ⟨rfl, rfl⟩
  rw [HM.out.1, HM.out.2]
  clear hg
  obtain ⟨i0, hi, hz0, hz1, hz2⟩ := info_parts Try.infoMark
  go_enter Try.func22, Try.ntmps22
  go_wp2_with fail
  refine (implGoodM_any _ _ _ _ hs hlm).mono ?_
  rintro r w ⟨hr, hBw⟩
  rw [HG.out] at hr; subst hr
  replace hs := hs.below hBw
  go_wp2_with (go_at_call 36; refine (within_any _ _ _).mono ?_; rintro e w1 ⟨rfl, hw1⟩; rw [hw1]; clear hw1 w1)
  go_loopw [6, 19] (fun v i wr => ∃ k : Nat, k ≤ m.length ∧ i = .int .i64 (k : Int) ∧ MkSt w wr v (cutTo m at_ k)) (fun _ i _ => m.length - (intOf i).toNat)
  case atStart => exact ⟨0, Nat.zero_le _, rfl, mkst_start w⟩
  case round =>
    obtain ⟨k, hk, rfl, hst⟩ := hrel
    have hml := cutTo_len m at_ k
    by_cases hlt : k < m.length
    · obtain ⟨b, off, rfl, c0, c1⟩ := (hs.below hst.bel) k _ (mA_get hlt)
      obtain ⟨av, cv, rfl⟩ := ownsM_form hst.own
      have ha : ∀ (u : World) o, Below u.heap.size u (u.alloc o) := fun u o => (Below.refl _ _).alloc (Nat.le_refl _) o
      have hst2 : ∀ o p, MkSt w ((wr.alloc o).alloc p) (.slice av (cutTo m at_ k).length cv) (cutTo m at_ k) := fun o p => mkst_below (mkst_below hst (ha _ _)) (ha _ _)
      have hst1 : ∀ o, MkSt w (wr.alloc o) (.slice av (cutTo m at_ k).length cv) (cutTo m at_ k) := fun o => mkst_below hst (ha _ _)
      clear hs
      by_cases hlt2 : (mA m k).st < at_
      · have HN : Hid (cutTo m at_ (k + 1) = cutTo m at_ k ++ [mA m k]) := cutTo_add hlt hlt2
        clear hst1
        go_wp2_with (at_builtin; refine wpList_append_lies _ rfl _ _ 36 rfl w.heap.size 56 i0 _ 2 16 Try.underlying36 hi hz0 hz1 hz2 rfl (by decide) (.slice av (cutTo m at_ k).length cv) (cutTo m at_ k).length (mkCells (cutTo m at_ k)) rfl (hst2 _ _).own ⟨wr.heap.size + 1, 0, none⟩ 1 1 (mkCells [(mA m k)]) rfl rfl ?c1 ?c2 (by omega) ?c3 ?c4 ?c5 (wr.heap.size + 1 + 1) ?c6 ?_)
        case c1 => exact World.news_of_block (cs := mkArr (mA m k)) (t := 56) (fr := (0, 0)) (by first | exact (heap_alloc_new (wr.alloc _) _) | simpa using (heap_alloc_new (wr.alloc _) _))
        case c2 => simp [mkCells, Value.oneCell']
        case c3 => unfold maxLen; omega
        case c4 => omega
        case c5 => have := hst.bel.size; simp; omega
        case c6 => simp
        intro g4 cap4 w4 hown4 hgrow hat4 _
        have hst4 := mkst_step (q := (mA m k)) (hst2 _ _) hgrow hown4
        have HS4 : Hid (MkSt w w4 (.slice (some ⟨g4, 0, none⟩) ((cutTo m at_ k).length + 1) cap4) (cutTo m at_ k ++ [(mA m k)])) := hst4
        clear hst4 hown4 hgrow hat4 hst2 hst
        go_wp2_with fail
        go_roundw
        case rel => exact ⟨k + 1, by omega, by go_num, by rw [HN.out]; exact HS4.out⟩
        case measure => simp [intOf]; omega
      · have HN : Hid (cutTo m at_ (k + 1) = cutTo m at_ k) := cutTo_same hlt hlt2
        have HS : Hid (∀ o, MkSt w (wr.alloc o) (.slice av (cutTo m at_ k).length cv) (cutTo m at_ k)) := hst1
        clear hst hst1 hst2
        go_wp2
        go_roundw
        case rel => exact ⟨k + 1, by omega, by go_num, by rw [HN.out]; exact HS.out _⟩
        case measure => simp [intOf]; omega
    · obtain rfl : k = m.length := by omega
      clear hs
      go_wp2
      go_ret2
      exact ⟨_, rfl, mkst_mono hst hBw⟩

end Go.Proofs.Ytgmcllfdhkjafaa
