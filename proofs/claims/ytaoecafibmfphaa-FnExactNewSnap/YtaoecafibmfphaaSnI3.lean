/-
  Worlds of chapter 8, the program's side: goodChans (slices.EqualFunc with its function literal), marksSentOn, marksFit.
-/
import Derived.Test.YtaoecafibmfphaaSnI2
import Derived.Test.YtaoecafibmfphaaChApp
namespace Go.Proofs.Ytaoecafibmfphaa
open Go.RowKit

abbrev litCh : Value := .func (.func 87) #[] #[]

set_option maxHeartbeats 1000000 in
theorem litCh_any (c d : Ch) (r2 : Option Addr) (k2 : Nat) (t2 : Option Addr) (j2 : Nat) (w : World) (h2 : Ints w r2 c.way) (l2 : c.way.length ≤ maxLen) :
    Calls Try.prog 87 #[.agg #[.int .i64 c.fr, .int .i64 c.to, .slice r2 c.way.length k2], .agg #[.int .i64 d.fr, .int .i64 d.to, .slice t2 d.way.length j2]] w fun e w' => e = .returned (.bool (okCh c d)) ∧ Below w.heap.size w w' := by
  have HB : ∀ x y, Below w.heap.size w ((w.alloc x).alloc y) := fun _ _ => ((Below.refl _ _).alloc (Nat.le_refl _) _).alloc (by simp) _
  have g2 : ∀ x y, Ints ((w.alloc x).alloc y) r2 c.way := fun x y => h2.below (HB x y)
  have hl := l2
  unfold maxLen at hl
  by_cases e1 : c.fr = d.fr
  · have d1 : (c.fr == d.fr) = true := by simp [e1]
    by_cases e2 : c.to = d.to
    · have d2 : (c.to == d.to) = true := by simp [e2]
      by_cases e3 : c.way.length ≤ 8
      · have d3 : (c.way.length : Int) ≤ 8 := by omega
        generalize hg : allW c.way 1000 = g
        have HE : Hid (okCh c d = g) := by show _ = _; unfold okCh; rw [decide_eq_true e1, decide_eq_true e2, decide_eq_true e3, hg]; rfl
        clear e1 e2 h2
        go_enter Try.func87, Try.ntmps87
        go_wp2_with (go_at_call 61; refine (allWithin_any _ _ _ _ _ (g2 _ _) l2).mono ?_; rintro e w' ⟨he, rfl⟩; rw [hg] at he; subst he)
        go_ret
        exact ⟨ret_bool HE.out.symm, HB _ _⟩
      · have d3 : ¬ (c.way.length : Int) ≤ 8 := by omega
        have HE : Hid (okCh c d = false) := by show _ = _; unfold okCh; rw [decide_eq_false e3]; simp
        clear e1 e2 h2
        go_enter Try.func87, Try.ntmps87
        go_wp2
        go_ret
        exact ⟨ret_bool HE.out.symm, HB _ _⟩
    · have d2 : (c.to == d.to) = false := by simp [e2]
      have HE : Hid (okCh c d = false) := by show _ = _; unfold okCh; rw [decide_eq_false e2]; simp
      clear e1 e2 h2
      go_enter Try.func87, Try.ntmps87
      go_wp2
      go_ret
      exact ⟨ret_bool HE.out.symm, HB _ _⟩
  · have d1 : (c.fr == d.fr) = false := by simp [e1]
    have HE : Hid (okCh c d = false) := by show _ = _; unfold okCh; rw [decide_eq_false e1]; simp
    clear e1 h2
    go_enter Try.func87, Try.ntmps87
    go_wp2
    go_ret
    exact ⟨ret_bool HE.out.symm, HB _ _⟩

set_option maxRecDepth 100000 in
set_option maxHeartbeats 2000000 in
theorem equalCh_any (a a2 : Option Addr) (c c2 : Nat) (l want : List Ch) (w : World) (hs : Chs w a l) (ht : Chs w a2 want) (hl : l.length ≤ maxLen) :
    Calls Try.prog 86 #[.slice a l.length c, .slice a2 want.length c2, litCh] w fun e w' => e = .returned (.bool (goodChs l want)) ∧ Below w.heap.size w w' := by
  unfold maxLen at hl
  by_cases e1 : l.length = want.length
  · have d1 : (((l.length : Nat) : Int) != ((want.length : Nat) : Int)) = false := by simp [e1]
    have HN : Hid (l.length = want.length) := e1
    clear e1
    go_enter Try.func86, Try.ntmps86
    go_wp2
    go_loopw [17] (fun i wr => ∃ k : Nat, k ≤ l.length ∧ i = .int .i64 k ∧ chsTo l want k ∧ Below w.heap.size w wr) (fun i _ => l.length - (intOf i).toNat)
    case atStart => exact ⟨0, Nat.zero_le _, rfl, fun i hi => absurd hi (Nat.not_lt_zero _), Below.refl _ _⟩
    case round =>
      obtain ⟨k, hk, rfl, hok, hB⟩ := hrel
      have HO : Hid (chsTo l want k) := hok
      clear hok
      by_cases hlt : k < l.length
      · have hlt2 : k < want.length := by have := HN.out; omega
        obtain ⟨kb, ob, rfl, r2, k2, c0, c1, c2, q2, m2⟩ := (hs.below hB) k _ (chA_get hlt)
        obtain ⟨kb', ob', rfl, t2, j2, d0, d1', d2, -, -⟩ := (ht.below hB) k _ (chA_get hlt2)
        have hBn : ∀ x y, Below w.heap.size w ((wr.alloc x).alloc y) := fun x y => (hB.alloc hB.size x).alloc (by have := hB.size; simp; omega) y
        have q2' : ∀ x y, Ints ((wr.alloc x).alloc y) r2 (chA l k).way := fun x y => q2.below (((Below.refl _ _).alloc (Nat.le_refl _) _).alloc (by simp) _)
        obtain ⟨b, hb⟩ : ∃ b, chA l k = b := ⟨_, rfl⟩
        have HP : Hid (chA l k = b) := hb
        obtain ⟨d, hd⟩ : ∃ d, chA want k = d := ⟨_, rfl⟩
        have HD : Hid (chA want k = d) := hd
        rw [hb] at c0 c1 c2 m2 q2'
        rw [hd] at d0 d1' d2
        have y0 : ∀ o, (wr.alloc o).cell? ⟨kb', ob' + k * 3, none⟩ = some (.int .i64 d.fr) := fun o => celB (alB wr o) d0
        have y1 : ∀ o, (wr.alloc o).cell? ⟨kb', ob' + k * 3 + 1, none⟩ = some (.int .i64 d.to) := fun o => celB (alB wr o) d1'
        have y2 : ∀ o, (wr.alloc o).cell? ⟨kb', ob' + k * 3 + 2, none⟩ = some (.slice t2 d.way.length j2) := fun o => celB (alB wr o) d2
        clear hs ht q2 hb hd d0 d1' d2
        generalize hg : okCh b d = g
        have HG : Hid (okCh b d = g) := hg
        clear hg
        go_wp2_with (go_at_call 87; refine (litCh_any b d _ _ _ _ _ (q2' _ _) m2).mono ?_; rintro r w1 ⟨hr, hB1⟩; rw [HG.out] at hr; subst hr; have BB := stB (hBn _ _) hB1; clear hB1 hB hBn q2'; cases g)
        · go_ret
          exact ⟨ret_bool (goodChs_bad hlt (by rw [HP.out, HD.out]; exact HG.out)).symm, BB⟩
        · go_roundw
          case rel => exact ⟨k + 1, by omega, by go_num, chsTo_succ HO.out (by rw [HP.out, HD.out]; exact HG.out), BB⟩
          case measure => simp [intOf]; omega
      · obtain rfl : k = l.length := by omega
        go_wp2
        go_ret
        exact ⟨ret_bool (goodChs_t.2 ⟨HN.out, HO.out⟩).symm, hB⟩
  · have d1 : (((l.length : Nat) : Int) != ((want.length : Nat) : Int)) = true := by simp; omega
    have HE : Hid (goodChs l want = false) := goodChs_len e1
    clear e1
    go_enter Try.func86, Try.ntmps86
    go_wp2
    go_ret
    exact ⟨ret_bool HE.out.symm, Below.refl _ _⟩

set_option maxHeartbeats 1000000 in
theorem goodChans_any (a : Option Addr) (c n : Nat) (l : List Ch) (w : World) (hs : Chs w a l) (hl : l.length ≤ maxLen) (hn : n ≤ 1048576) :
    Calls Try.prog 62 #[.slice a l.length c, .int .i64 (n : Int)] w fun e w' => e = .returned (.bool (goodChs l (chansL n))) ∧ Below w.heap.size w w' := by
  have hlen := chansTo_len2 hn (Nat.le_refl n)
  go_enter Try.func62, Try.ntmps62
  go_wp2_with fail
  refine (chansBetween_any _ _ hn).mono ?_
  rintro r w1 ⟨v, rfl, hst⟩
  obtain ⟨av, cv, rfl⟩ := ownsC_form hst.own
  have hc := chs_of_owns hst.own (fun q hq => by obtain ⟨_, _, -, -, -, -, h⟩ := chansL_mem hq; exact h)
  have hs1 := hs.below hst.bel
  have BB := hst.bel
  clear hst
  go_wp2_with fail
  refine (equalCh_any _ _ _ _ _ _ _ hs1 hc hl).mono ?_
  rintro r w2 ⟨rfl, hB⟩
  have BB2 := stB BB hB
  clear hB BB
  go_wp2
  go_ret
  exact ⟨rfl, BB2⟩

end Go.Proofs.Ytaoecafibmfphaa
