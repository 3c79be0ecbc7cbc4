/-
  Worlds of chapter 8, the program's side: goodPicture, goodPictures, the channels that are told by a function literal, goodChans.
-/
import Derived.Test.YtaoecafibmfphaaSnI
namespace Go.Proofs.Ytaoecafibmfphaa
open Go.RowKit

set_option maxHeartbeats 2000000 in
theorem goodPicture_any (p : Pc) (r2 : Option Addr) (k2 : Nat) (r3 : Option Addr) (k3 own n : Nat) (w : World) (h2 : Ints w r2 p.ins) (h3 : Bools w r3 p.cl) (l2 : p.ins.length ≤ maxLen) (l3 : p.cl.length ≤ maxLen) (hown : own < n) :
    Calls Try.prog 88 #[.agg #[.bool p.tk, .int .i64 p.am, .slice r2 p.ins.length k2, .slice r3 p.cl.length k3], .int .i64 (own : Int), .int .i64 (n : Int)] w fun e w' => e = .returned (.bool (goodPc p own n)) ∧ Below w.heap.size w w' := by
  have g2 : ∀ o, Ints (w.alloc o) r2 p.ins := fun o => h2.below (alB w o)
  have g3 : ∀ o, Bools (w.alloc o) r3 p.cl := fun o => h3.below (alB w o)
  have HB : ∀ o, Below w.heap.size w (w.alloc o) := fun o => alB w o
  by_cases e1 : p.ins.length = n
  · by_cases e2 : p.cl.length = n
    · have d1 : (((p.ins.length : Nat) : Int) != (n : Int)) = false := by simp [e1]
      have d2 : (((p.cl.length : Nat) : Int) != (n : Int)) = false := by simp [e2]
      have HG : Hid (goodPc p own n = (if p.tk then inB p.am 0 1000 && allW p.ins 1000000 && decide (zA p.ins own = 0) && boA p.cl own else decide (p.am = 0) && allW p.ins 0 && !hasB p.cl true)) := by
        show _ = _; unfold goodPc; rw [decide_eq_true e1, decide_eq_true e2]; rfl
      obtain ⟨b2, f2, rfl, x2⟩ := h2 own _ (zA_get (by omega))
      obtain ⟨b3, f3, rfl, x3⟩ := h3 own _ (boA_get (by omega))
      have y2 : ∀ o, (w.alloc o).cell? ⟨b2, f2 + own, none⟩ = some (.int .i64 (zA p.ins own)) := fun o => celB (HB o) x2
      have y3 : ∀ o, (w.alloc o).cell? ⟨b3, f3 + own, none⟩ = some (.bool (boA p.cl own)) := fun o => celB (HB o) x3
      have hi2 : (own : Int) < (p.ins.length : Int) := by omega
      have hi3 : (own : Int) < (p.cl.length : Int) := by omega
      have hi2' : own < p.ins.length := by omega
      have hi3' : own < p.cl.length := by omega
      clear h2 h3 e1 e2 x2 x3
      cases htk : p.tk with
      | false =>
        have HT : Hid (goodPc p own n = (decide (p.am = 0) && allW p.ins 0 && !hasB p.cl true)) := by show _ = _; rw [HG.out, htk]; rfl
        by_cases ea : p.am = 0
        · have da : (p.am == 0) = true := by simp [ea]
          generalize hg1 : allW p.ins 0 = g1 at HT
          cases g1 with
          | true =>
            generalize hg2 : hasB p.cl true = g2' at HT
            have HE : Hid (goodPc p own n = !g2') := by show _ = _; rw [HT.out]; simp [ea]
            clear ea HT HG
            go_enter Try.func88, Try.ntmps88
            go_wp2_with (first | (go_at_call 61; refine (allWithin_any _ _ _ _ _ (g2 _) l2).mono ?_; rintro e w' ⟨he, rfl⟩; rw [hg1] at he; subst he) | (go_at_call 74; refine (containsB_any _ _ _ _ _ (g3 _) l3).mono ?_; rintro e w' ⟨he, rfl⟩; rw [hg2] at he; subst he))
            go_ret
            exact ⟨ret_bool HE.out.symm, HB _⟩
          | false =>
            have HE : Hid (goodPc p own n = false) := by show _ = _; rw [HT.out]; simp
            clear ea HT HG
            go_enter Try.func88, Try.ntmps88
            go_wp2_with (first | (go_at_call 61; refine (allWithin_any _ _ _ _ _ (g2 _) l2).mono ?_; rintro e w' ⟨he, rfl⟩; rw [hg1] at he; subst he))
            go_ret
            exact ⟨ret_bool HE.out.symm, HB _⟩
        · have da : (p.am == 0) = false := by simp [ea]
          have HE : Hid (goodPc p own n = false) := by show _ = _; rw [HT.out]; simp [ea]
          clear ea HT HG
          go_enter Try.func88, Try.ntmps88
          go_wp2
          go_ret
          exact ⟨ret_bool HE.out.symm, HB _⟩
      | true =>
        have HT : Hid (goodPc p own n = (inB p.am 0 1000 && allW p.ins 1000000 && decide (zA p.ins own = 0) && boA p.cl own)) := by show _ = _; rw [HG.out, htk]; rfl
        generalize hg0 : inB p.am 0 1000 = g0 at HT
        cases g0 with
        | false =>
          have HE : Hid (goodPc p own n = false) := by show _ = _; rw [HT.out]; simp
          clear HT HG
          go_enter Try.func88, Try.ntmps88
          go_wp2_with (first | (go_at_call 40; refine (within_any _ _ _).mono ?_; rintro e w' ⟨he, rfl⟩; rw [hg0] at he; subst he))
          go_ret
          exact ⟨ret_bool HE.out.symm, HB _⟩
        | true =>
          generalize hg1 : allW p.ins 1000000 = g1 at HT
          cases g1 with
          | false =>
            have HE : Hid (goodPc p own n = false) := by show _ = _; rw [HT.out]; simp
            clear HT HG
            go_enter Try.func88, Try.ntmps88
            go_wp2_with (first | (go_at_call 40; refine (within_any _ _ _).mono ?_; rintro e w' ⟨he, rfl⟩; rw [hg0] at he; subst he) | (go_at_call 61; refine (allWithin_any _ _ _ _ _ (g2 _) l2).mono ?_; rintro e w' ⟨he, rfl⟩; rw [hg1] at he; subst he))
            go_ret
            exact ⟨ret_bool HE.out.symm, HB _⟩
          | true =>
            by_cases ez : zA p.ins own = 0
            · have dz : (zA p.ins own == 0) = true := by simp [ez]
              have HE : Hid (goodPc p own n = boA p.cl own) := by show _ = _; rw [HT.out]; simp [ez]
              clear ez HT HG
              go_enter Try.func88, Try.ntmps88
              go_wp2_with (first | (go_at_call 40; refine (within_any _ _ _).mono ?_; rintro e w' ⟨he, rfl⟩; rw [hg0] at he; subst he) | (go_at_call 61; refine (allWithin_any _ _ _ _ _ (g2 _) l2).mono ?_; rintro e w' ⟨he, rfl⟩; rw [hg1] at he; subst he))
              go_ret
              exact ⟨ret_bool HE.out.symm, HB _⟩
            · have dz : (zA p.ins own == 0) = false := by simp [ez]
              have HE : Hid (goodPc p own n = false) := by show _ = _; rw [HT.out]; simp [ez]
              clear ez HT HG
              go_enter Try.func88, Try.ntmps88
              go_wp2_with (first | (go_at_call 40; refine (within_any _ _ _).mono ?_; rintro e w' ⟨he, rfl⟩; rw [hg0] at he; subst he) | (go_at_call 61; refine (allWithin_any _ _ _ _ _ (g2 _) l2).mono ?_; rintro e w' ⟨he, rfl⟩; rw [hg1] at he; subst he))
              go_ret
              exact ⟨ret_bool HE.out.symm, HB _⟩
    · have d1 : (((p.ins.length : Nat) : Int) != (n : Int)) = false := by simp [e1]
      have d2 : (((p.cl.length : Nat) : Int) != (n : Int)) = true := by simp; omega
      have HE : Hid (goodPc p own n = false) := by show _ = _; unfold goodPc; rw [decide_eq_false e2]; simp
      clear e1 e2
      go_enter Try.func88, Try.ntmps88
      go_wp2
      go_ret
      exact ⟨ret_bool HE.out.symm, HB _⟩
  · have d1 : (((p.ins.length : Nat) : Int) != (n : Int)) = true := by simp; omega
    have HE : Hid (goodPc p own n = false) := by show _ = _; unfold goodPc; rw [decide_eq_false e1]; simp
    clear e1
    go_enter Try.func88, Try.ntmps88
    go_wp2
    go_ret
    exact ⟨ret_bool HE.out.symm, HB _⟩

set_option maxHeartbeats 2000000 in
theorem goodPictures_any (a : Option Addr) (c n : Nat) (l : List Pc) (w : World) (hs : Pcs w a l) (hl : l.length ≤ maxLen) :
    Calls Try.prog 63 #[.slice a l.length c, .int .i64 (n : Int)] w fun e w' => e = .returned (.bool (goodPcs l n)) ∧ Below w.heap.size w w' := by
  unfold maxLen at hl
  by_cases e1 : l.length = n
  · have d1 : (((l.length : Nat) : Int) != (n : Int)) = false := by simp [e1]
    have HN : Hid (l.length = n) := e1
    clear e1
    go_enter Try.func63, Try.ntmps63
    go_wp2
    go_loopw [13] (fun i wr => ∃ k : Nat, k ≤ l.length ∧ i = .int .i64 k ∧ pcsTo l n k ∧ Below w.heap.size w wr) (fun i _ => l.length - (intOf i).toNat)
    case atStart => exact ⟨0, Nat.zero_le _, rfl, fun i hi => absurd hi (Nat.not_lt_zero _), Below.refl _ _⟩
    case round =>
      obtain ⟨k, hk, rfl, hok, hB⟩ := hrel
      have HO : Hid (pcsTo l n k) := hok
      clear hok
      by_cases hlt : k < l.length
      · obtain ⟨kb, ob, rfl, r2, k2, r3, k3, c0, c1, c2, c3, q2, m2, q3, m3⟩ := (hs.below hB) k _ (pcA_get hlt)
        have q2' : ∀ o, Ints (wr.alloc o) r2 (pcA l k).ins := fun o => q2.below (alB wr o)
        have q3' : ∀ o, Bools (wr.alloc o) r3 (pcA l k).cl := fun o => q3.below (alB wr o)
        have hBn : ∀ o, Below w.heap.size w (wr.alloc o) := fun o => hB.alloc hB.size o
        obtain ⟨b, hb⟩ : ∃ b, pcA l k = b := ⟨_, rfl⟩
        have HP : Hid (pcA l k = b) := hb
        rw [hb] at c0 c1 c2 c3 m2 m3 q2' q3'
        have hkn : k < n := by have := HN.out; omega
        clear hs q2 q3 hb
        generalize hg : goodPc b k n = g
        have HG : Hid (goodPc b k n = g) := hg
        clear hg
        go_wp2_with fail
        refine (goodPicture_any b _ _ _ _ k n _ (q2' _) (q3' _) m2 m3 hkn).mono ?_
        rintro r w1 ⟨hr, hB1⟩
        rw [HG.out] at hr
        subst hr
        have BB := stB (hBn _) hB1
        clear hB1 hB hBn q2' q3'
        cases g with
        | true =>
          go_wp2
          go_roundw
          case rel => exact ⟨k + 1, by omega, by go_num, pcsTo_succ HO.out (by rw [HP.out]; exact HG.out), BB⟩
          case measure => simp [intOf]; omega
        | false =>
          go_wp2
          go_ret
          exact ⟨ret_bool (goodPcs_bad hlt (by rw [HP.out]; exact HG.out)).symm, BB⟩
      · obtain rfl : k = l.length := by omega
        go_wp2
        go_ret
        exact ⟨ret_bool (goodPcs_t.2 ⟨HN.out, HO.out⟩).symm, hB⟩
  · have d1 : (((l.length : Nat) : Int) != (n : Int)) = true := by simp; omega
    have HE : Hid (goodPcs l n = false) := goodPcs_len e1
    clear e1
    go_enter Try.func63, Try.ntmps63
    go_wp2
    go_ret
    exact ⟨ret_bool HE.out.symm, Below.refl _ _⟩

end Go.Proofs.Ytaoecafibmfphaa
