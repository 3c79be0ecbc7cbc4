/-
  Following: spec.FollowBy and impl.FollowBy answer the same entries, in memory of the call's own.
-/
import Derived.Test.YtgmcllfdhkjafaaEpMatchI
import Derived.Test.YtgmcllfdhkjafaaZCell
namespace Go.Proofs.Ytgmcllfdhkjafaa
open Go.RowKit

def folL (L f : List Int) : List Int := if goodE L && goodE f then f.take (matchL L f).1.toNat ++ L.drop (matchL L f).1.toNat else []
def FoAns (w : World) (zs : List Int) (ok : Bool) (e : Ending) (w' : World) : Prop := ∃ v, e = .returned (.tuple #[v, .bool ok]) ∧ w'.ownsRow w.heap.size 3 1 v zs.length (zCells zs) ∧ Below w.heap.size w w'

theorem Try.infoInt2 : (Try.prog.info? 3).map (fun i => (i.zero, i.size, i.bytes)) = some (some (.int .i64 0), 1, 8) := Try.infoInt

theorem run_make_cap (n : Nat) (h : n ≤ 1048576) (w : World) :
    (Instr.makeSlice 23 (.int .i64 0) (.int .i64 (n : Int))).run Try.prog w = .ok (.slice (some ⟨w.heap.size, 0, none⟩) 0 n) (w.alloc (.cells (madeCells #[Value.int .i64 0] n) 3)) := by
  obtain ⟨i0, hi, hz0, hz1, hz2⟩ := info_parts Try.infoInt
  have hr := run_make (P := Try.prog) w 23 3 i0 _ Try.underlying23 hi hz0 .i64 .i64 0 (n : Int) (by omega) (by omega) (by rw [hz2]; omega) (by omega)
  simp only [Int.toNat_natCast, hz1, Nat.mul_one] at hr
  exact hr

set_option maxRecDepth 100000 in
set_option maxHeartbeats 2000000 in
theorem specFB_good (gL gF : Nat) (L f : List Int) (w : World) (hL : Ints w (some ⟨gL, 0, none⟩) L) (hF : Ints w (some ⟨gF, 0, none⟩) f) (kL : goodE L = true) (kF : goodE f = true) :
    Calls Try.prog 11 #[.slice (some ⟨gL, 0, none⟩) L.length L.length, .slice (some ⟨gF, 0, none⟩) f.length f.length] w fun e w' => FoAns w (f.take (matchL L f).1.toNat ++ L.drop (matchL L f).1.toNat) true e w' := by
  obtain ⟨i0, hi, hz0, hz1, hz2⟩ := info_parts Try.infoInt
  have nL := (goodE_t.1 kL).1
  have nF := (goodE_t.1 kF).1
  have hbd := matchL_bd kL kF
  obtain ⟨n, hn⟩ := Int.eq_ofNat_of_zero_le hbd.1
  rw [hn] at hbd
  have HN : Hid ((matchL L f).1 = (n : Int)) := hn
  have b1 : n ≤ L.length := by omega
  have b2 : n ≤ f.length := by omega
  rw [hn, Int.toNat_natCast]
  have GL : Hid (goodE L = true) := kL
  have GF : Hid (goodE f = true) := kF
  clear kL kF hn hbd
  have c1 : (n : Int) ≤ (L.length : Int) := by omega
  have c2 : (n : Int) ≤ (f.length : Int) := by omega
  go_enter Try.func11, Try.ntmps11
  go_wp2_with fail
  refine (specGoodE_any _ _ _ _ hL (by unfold maxLen; omega)).mono ?_
  rintro r w1 ⟨hr, hw1⟩
  rw [GL.out] at hr; subst hr
  rw [hw1]
  clear hw1 w1
  go_wp2_with fail
  refine (specGoodE_any _ _ _ _ hF (by unfold maxLen; omega)).mono ?_
  rintro r w2 ⟨hr, hw2⟩
  rw [GF.out] at hr; subst hr
  rw [hw2]
  clear hw2 w2
  go_wp2_with fail
  refine (l4Match_any _ _ _ _ _ _ _ hL hF GL.out GF.out).mono ?_
  rintro r w3 ⟨hr, hB3⟩
  rw [HN.out] at hr; subst hr
  have HL3 := hL.below hB3
  have HF3 := hF.below hB3
  clear hL hF
  have hl3 := hB3.size
  have ha : ∀ (u : World) o, Below u.heap.size u (u.alloc o) := fun u o => (Below.refl _ _).alloc (Nat.le_refl _) o
  go_wp2_with (at_builtin; refine wpList_append_own _ rfl _ _ 23 rfl w3.heap.size 3 i0 (.int .i64 0) 1 8 Try.underlying23 hi hz0 hz1 hz2 rfl (by decide) _ 0 [] rfl (World.ownsRow_made w3 #[] 0 (Nat.le_refl _) (by unfold maxLen; omega) rfl) ⟨gF, 0, none⟩ n f.length (zCells (f.take n)) rfl ?d1 (news_take (HF3.below (ha _ _))) (zCells_one _) ?d3 ?d4 ?d5 ?_)
  case d1 => rw [zCells_len, List.length_take]; omega
  case d3 => unfold maxLen; omega
  case d4 => omega
  case d5 => simp
  intro v4 w4 hown4 hgrow4 _
  have B4 : Below w3.heap.size w3 w4 := (ha w3 _).grown hgrow4 (by simp) (fun k hk => by simp [Value.ownBlock] at hk; omega)
  try simp only [Nat.zero_add, List.nil_append] at hown4
  obtain ⟨a4, c4, rfl⟩ := ownsM_form hown4
  have HL4 := HL3.below B4
  have BB := hB3.trans (B4.mono hB3.size)
  have hl4 := B4.size
  clear hgrow4 B4 HF3 HL3 hB3
  by_cases hlast : n = L.length
  · subst hlast
    have hz : (L.length : Int) - (L.length : Int) = 0 := by omega
    go_wp2_with (at_builtin; refine wpList_append_own _ rfl _ _ 23 rfl w3.heap.size 3 i0 (.int .i64 0) 1 8 Try.underlying23 hi hz0 hz1 hz2 rfl (by decide) _ L.length (zCells (f.take L.length)) rfl hown4 ⟨gL, 0, none⟩ 0 0 [] rfl rfl (fun j u h => by simp at h) (fun u h => by simp at h) ?e3 ?e4 ?e5 ?_)
    case e3 => unfold maxLen; omega
    case e4 => omega
    case e5 => omega
    intro v5 w5 hown5 hgrow5 _
    have B5 := BB.grown hgrow5 (by have := BB.size; omega) (fun k hk => Nat.le_trans hl3 (hown4.lt k hk).1)
    try simp only [Nat.add_zero, List.append_nil] at hown5
    have HE : Hid (w5.ownsRow w.heap.size 3 1 v5 (f.take L.length ++ L.drop L.length).length (zCells (f.take L.length ++ L.drop L.length))) := by
      have e1 : f.take L.length ++ L.drop L.length = f.take L.length := by rw [List.drop_length, List.append_nil]
      have e2 : (f.take L.length).length = L.length := by rw [List.length_take]; omega
      show w5.ownsRow _ _ _ _ _ _
      rw [e1, e2]; exact ownsM_mono hown5 hl3
    clear hown5 hgrow5 hown4 HL4
    go_wp2
    go_ret2
    exact ⟨_, rfl, HE.out, B5⟩
  · have hlt : n < L.length := by omega
    have c3 : (n : Int) < (L.length : Int) := by omega
    have hne : ¬ (L.length - n = 0) := by omega
    have hne2 : ¬ ((L.length : Int) - n = 0) := by omega
    go_wp2_with (at_builtin; refine wpList_append_own _ rfl _ _ 23 rfl w3.heap.size 3 i0 (.int .i64 0) 1 8 Try.underlying23 hi hz0 hz1 hz2 rfl (by decide) _ n (zCells (f.take n)) rfl hown4 ⟨gL, n, none⟩ (L.length - n) (L.length - n) (zCells (L.drop n)) rfl ?e1 (news_drop HL4) (zCells_one _) ?e3 ?e4 ?e5 ?_)
    case e1 => rw [zCells_len, List.length_drop]
    case e3 => unfold maxLen; omega
    case e4 => omega
    case e5 => omega
    intro v5 w5 hown5 hgrow5 _
    have B5 := BB.grown hgrow5 (by have := BB.size; omega) (fun k hk => Nat.le_trans hl3 (hown4.lt k hk).1)
    have HE : Hid (w5.ownsRow w.heap.size 3 1 v5 (f.take n ++ L.drop n).length (zCells (f.take n ++ L.drop n))) := by
      have e2 : (f.take n ++ L.drop n).length = L.length := by rw [List.length_append, List.length_take, List.length_drop]; omega
      show w5.ownsRow _ _ _ _ _ _
      rw [e2, zCells_app]; exact ownsM_mono hown5 hl3
    clear hown5 hgrow5 hown4 HL4
    go_wp2
    go_ret2
    exact ⟨_, rfl, HE.out, B5⟩

set_option maxRecDepth 100000 in
set_option maxHeartbeats 2000000 in
theorem implFB_good (gL gF : Nat) (L f : List Int) (w : World) (hL : Ints w (some ⟨gL, 0, none⟩) L) (hF : Ints w (some ⟨gF, 0, none⟩) f) (kL : goodE L = true) (kF : goodE f = true) :
    Calls Try.prog 10 #[.slice (some ⟨gL, 0, none⟩) L.length L.length, .slice (some ⟨gF, 0, none⟩) f.length f.length] w fun e w' => FoAns w (f.take (matchL L f).1.toNat ++ L.drop (matchL L f).1.toNat) true e w' := by
  obtain ⟨i0, hi, hz0, hz1, hz2⟩ := info_parts Try.infoInt
  have nL := (goodE_t.1 kL).1
  have nF := (goodE_t.1 kF).1
  have hbd := matchL_bd kL kF
  obtain ⟨n, hn⟩ := Int.eq_ofNat_of_zero_le hbd.1
  rw [hn] at hbd
  have HN : Hid ((matchL L f).1 = (n : Int)) := hn
  have b1 : n ≤ L.length := by omega
  have b2 : n ≤ f.length := by omega
  rw [hn, Int.toNat_natCast]
  have GL : Hid (goodE L = true) := kL
  have GF : Hid (goodE f = true) := kF
  clear kL kF hn hbd
  have c1 : (n : Int) ≤ (L.length : Int) := by omega
  have c2 : (n : Int) ≤ (f.length : Int) := by omega
  have hmk := run_make_cap L.length (by omega)
  go_enter Try.func10, Try.ntmps10
  go_wp2_with fail
  refine (implMB_any _ _ _ _ _ _ _ hL hF (by unfold maxLen; omega) (by unfold maxLen; omega)).mono ?_
  rintro r w3 ⟨hr, hB3⟩
  rw [mbR_yes GL.out GF.out, HN.out] at hr; simp only [eeV] at hr; subst hr
  have HL3 := hL.below hB3
  have HF3 := hF.below hB3
  clear hL hF
  have hl3 := hB3.size
  have ha : ∀ (u : World) o, Below u.heap.size u (u.alloc o) := fun u o => (Below.refl _ _).alloc (Nat.le_refl _) o
  go_wp2_with (at_builtin; refine wpList_append_own _ rfl _ _ 23 rfl w3.heap.size 3 i0 (.int .i64 0) 1 8 Try.underlying23 hi hz0 hz1 hz2 rfl (by decide) _ 0 [] rfl (World.ownsRow_made w3 _ L.length (Nat.le_refl _) (by unfold maxLen; omega) (by simp [size_madeCells])) ⟨gF, 0, none⟩ n f.length (zCells (f.take n)) rfl ?d1 (news_take (HF3.below (ha _ _))) (zCells_one _) ?d3 ?d4 ?d5 ?_)
  case d1 => rw [zCells_len, List.length_take]; omega
  case d3 => unfold maxLen; omega
  case d4 => omega
  case d5 => simp
  intro v4 w4 hown4 hgrow4 _
  have B4 : Below w3.heap.size w3 w4 := (ha w3 _).grown hgrow4 (by simp) (fun k hk => by simp [Value.ownBlock] at hk; omega)
  try simp only [Nat.zero_add, List.nil_append] at hown4
  obtain ⟨a4, c4, rfl⟩ := ownsM_form hown4
  have HL4 := HL3.below B4
  have BB := hB3.trans (B4.mono hB3.size)
  have hl4 := B4.size
  clear hgrow4 B4 HF3 HL3 hB3
  by_cases hlast : n = L.length
  · subst hlast
    have hz : (L.length : Int) - (L.length : Int) = 0 := by omega
    go_wp2_with (at_builtin; refine wpList_append_own _ rfl _ _ 23 rfl w3.heap.size 3 i0 (.int .i64 0) 1 8 Try.underlying23 hi hz0 hz1 hz2 rfl (by decide) _ L.length (zCells (f.take L.length)) rfl hown4 ⟨gL, 0, none⟩ 0 0 [] rfl rfl (fun j u h => by simp at h) (fun u h => by simp at h) ?e3 ?e4 ?e5 ?_)
    case e3 => unfold maxLen; omega
    case e4 => omega
    case e5 => omega
    intro v5 w5 hown5 hgrow5 _
    have B5 := BB.grown hgrow5 (by have := BB.size; omega) (fun k hk => Nat.le_trans hl3 (hown4.lt k hk).1)
    try simp only [Nat.add_zero, List.append_nil] at hown5
    have HE : Hid (w5.ownsRow w.heap.size 3 1 v5 (f.take L.length ++ L.drop L.length).length (zCells (f.take L.length ++ L.drop L.length))) := by
      have e1 : f.take L.length ++ L.drop L.length = f.take L.length := by rw [List.drop_length, List.append_nil]
      have e2 : (f.take L.length).length = L.length := by rw [List.length_take]; omega
      show w5.ownsRow _ _ _ _ _ _
      rw [e1, e2]; exact ownsM_mono hown5 hl3
    clear hown5 hgrow5 hown4 HL4
    go_wp2
    go_ret2
    exact ⟨_, rfl, HE.out, B5⟩
  · have hlt : n < L.length := by omega
    have c3 : (n : Int) < (L.length : Int) := by omega
    have hne : ¬ (L.length - n = 0) := by omega
    have hne2 : ¬ ((L.length : Int) - n = 0) := by omega
    go_wp2_with (at_builtin; refine wpList_append_own _ rfl _ _ 23 rfl w3.heap.size 3 i0 (.int .i64 0) 1 8 Try.underlying23 hi hz0 hz1 hz2 rfl (by decide) _ n (zCells (f.take n)) rfl hown4 ⟨gL, n, none⟩ (L.length - n) (L.length - n) (zCells (L.drop n)) rfl ?e1 (news_drop HL4) (zCells_one _) ?e3 ?e4 ?e5 ?_)
    case e1 => rw [zCells_len, List.length_drop]
    case e3 => unfold maxLen; omega
    case e4 => omega
    case e5 => omega
    intro v5 w5 hown5 hgrow5 _
    have B5 := BB.grown hgrow5 (by have := BB.size; omega) (fun k hk => Nat.le_trans hl3 (hown4.lt k hk).1)
    have HE : Hid (w5.ownsRow w.heap.size 3 1 v5 (f.take n ++ L.drop n).length (zCells (f.take n ++ L.drop n))) := by
      have e2 : (f.take n ++ L.drop n).length = L.length := by rw [List.length_append, List.length_take, List.length_drop]; omega
      show w5.ownsRow _ _ _ _ _ _
      rw [e2, zCells_app]; exact ownsM_mono hown5 hl3
    clear hown5 hgrow5 hown4 HL4
    go_wp2
    go_ret2
    exact ⟨_, rfl, HE.out, B5⟩

theorem folL_yes {L f : List Int} (h1 : goodE L = true) (h2 : goodE f = true) : folL L f = f.take (matchL L f).1.toNat ++ L.drop (matchL L f).1.toNat := by
  unfold folL; rw [h1, h2]; rfl
theorem folL_no {L f : List Int} (h : (goodE L && goodE f) = false) : folL L f = [] := by unfold folL; rw [h]; rfl

set_option maxRecDepth 100000 in
set_option maxHeartbeats 2000000 in
theorem specFB_any (gL gF : Nat) (L f : List Int) (w : World) (hL : Ints w (some ⟨gL, 0, none⟩) L) (hF : Ints w (some ⟨gF, 0, none⟩) f) (lL : L.length ≤ maxLen) (lF : f.length ≤ maxLen) :
    Calls Try.prog 11 #[.slice (some ⟨gL, 0, none⟩) L.length L.length, .slice (some ⟨gF, 0, none⟩) f.length f.length] w fun e w' => FoAns w (folL L f) (goodE L && goodE f) e w' := by
  cases g1 : goodE L with
  | false =>
    rw [folL_no (by rw [g1]; rfl)]
    have GL : Hid (goodE L = false) := g1
    clear g1
    go_enter Try.func11, Try.ntmps11
    go_wp2_with fail
    refine (specGoodE_any _ _ _ _ hL lL).mono ?_
    rintro r w1 ⟨hr, rfl⟩
    rw [GL.out] at hr; subst hr
    go_wp2
    go_ret2
    exact ⟨_, rfl, World.ownsRow_nil _ _ _ _, Below.refl _ _⟩
  | true =>
    cases g2 : goodE f with
    | false =>
      rw [folL_no (by rw [g1, g2]; rfl)]
      have GL : Hid (goodE L = true) := g1
      have GF : Hid (goodE f = false) := g2
      clear g1 g2
      go_enter Try.func11, Try.ntmps11
      go_wp2_with fail
      refine (specGoodE_any _ _ _ _ hL lL).mono ?_
      rintro r w1 ⟨hr, rfl⟩
      rw [GL.out] at hr; subst hr
      go_wp2_with fail
      refine (specGoodE_any _ _ _ _ hF lF).mono ?_
      rintro r w2 ⟨hr, rfl⟩
      rw [GF.out] at hr; subst hr
      go_wp2
      go_ret2
      exact ⟨_, rfl, World.ownsRow_nil _ _ _ _, Below.refl _ _⟩
    | true =>
      rw [folL_yes g1 g2]
      exact specFB_good gL gF L f w hL hF g1 g2

set_option maxRecDepth 100000 in
set_option maxHeartbeats 2000000 in
theorem implFB_any (gL gF : Nat) (L f : List Int) (w : World) (hL : Ints w (some ⟨gL, 0, none⟩) L) (hF : Ints w (some ⟨gF, 0, none⟩) f) (lL : L.length ≤ maxLen) (lF : f.length ≤ maxLen) :
    Calls Try.prog 10 #[.slice (some ⟨gL, 0, none⟩) L.length L.length, .slice (some ⟨gF, 0, none⟩) f.length f.length] w fun e w' => FoAns w (folL L f) (goodE L && goodE f) e w' := by
  by_cases hg : (goodE L && goodE f) = true
  · have g := hg
    rw [Bool.and_eq_true] at g
    rw [hg, folL_yes g.1 g.2]
    exact implFB_good gL gF L f w hL hF g.1 g.2
  · have hg : (goodE L && goodE f) = false := by simpa using hg
    have HR : Hid (mbR L f = (0, 0, false)) := by show _ = _; unfold mbR; rw [hg]; rfl
    rw [folL_no hg, hg]
    clear hg
    go_enter Try.func10, Try.ntmps10
    go_wp2_with fail
    refine (implMB_any _ _ _ _ _ _ _ hL hF lL lF).mono ?_
    rintro r w3 ⟨hr, hB3⟩
    rw [HR.out] at hr; simp only [eeV] at hr; subst hr
    go_wp2
    go_ret2
    exact ⟨_, rfl, World.ownsRow_nil _ _ _ _, hB3⟩

end Go.Proofs.Ytgmcllfdhkjafaa
