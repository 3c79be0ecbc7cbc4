/-
  What impl.BlocksOf answers, with the room of its lists. Made by mkqcap.py.
-/
import Derived.Test.YtdibddkhjefmlaaDoorQBO
namespace Go.Proofs.YtdibddkhjefmlaaDoor
open Go.RowKit

/-- Each list has room for what it holds. -/
def QCap (qs : List QI) : Prop := ∀ q ∈ qs, q.zs.length ≤ q.c
theorem QCap.snoc {qs : List QI} {zs : List Int} {a : Option Addr} {c : Nat} (h : QCap qs) (hc : zs.length ≤ c) : QCap (qs ++ [⟨zs, a, c⟩]) := fun q hq => by
  rcases List.mem_append.1 hq with h1 | h1
  · exact h q h1
  · rw [List.mem_singleton.1 h1]; exact hc
def LLAnsK (w : World) (L : List (List Int)) (r : Ending) (w' : World) : Prop := ∃ v, ∃ qs : List QI, r = .returned v ∧ qs.map QI.zs = L ∧ LSt w w' v qs ∧ QCap qs
def LAnsK (w : World) (L : List (List Int)) (ok : Bool) (r : Ending) (w' : World) : Prop :=
  ∃ a c, ∃ qs : List QI, qs.map QI.zs = L ∧ r = .returned (.tuple #[.slice a qs.length c, .bool ok]) ∧ OutQ w' w.heap.size a qs ∧ Below w.heap.size w w' ∧ QCap qs
theorem lansK_of {w wr : World} {v : Value} {qs : List QI} {L : List (List Int)} {ok : Bool} (hc : QCap qs) (h : LSt w wr v qs) (e : qs.map QI.zs = L) : LAnsK w L ok (.returned (.tuple #[v, .bool ok])) wr := by
  obtain ⟨a, c, rfl, -, -⟩ := ownsZ_cap h.own
  exact ⟨a, c, qs, e, rfl, lst_out h, h.bel, hc⟩

set_option maxRecDepth 100000 in
set_option maxHeartbeats 4000000 in
theorem leastListsBK_any (en : Nat → Bool) (w0 : World) (Bv many : Nat) (HE : Hid (EnoughBO w0 Bv many en)) (hmany : many ≤ 7) (w : World) (hB0 : Below w0.heap.size w0 w) (hT : TabQ w) :
    Calls Tryd.prog 26 #[.int .i64 (many : Int), litBO Bv] w fun r w' => LLAnsK w (lstTo en (2 ^ many)) r w' := by
  obtain ⟨i0, hi, hz0, hz1, hz2⟩ := info_parts Tryd.infoInts
  obtain ⟨P2, hP2⟩ : ∃ p, p = 2 ^ many := ⟨_, rfl⟩
  have hP128 : P2 ≤ 128 := by rw [hP2]; exact pow_small _ hmany
  have hwr : IntKind.u64.wrap ((2 : Int) ^ many) = (P2 : Int) := by
    rw [show (2 : Int) ^ many = (P2 : Int) by rw [hP2]; simp]
    simp [IntKind.wrap, IntKind.bits, IntKind.signed]; omega
  rw [← hP2]
  have HP2 : Hid (P2 = 2 ^ many) := hP2
  clear hP2
  go_enter Tryd.func26, Tryd.ntmps26
  go_wp2
  go_loopw [5, 6] (fun v i wr => ∃ k : Nat, ∃ qs : List QI, k ≤ P2 ∧ i = .int .u64 (k : Int) ∧ qs.map QI.zs = lstTo en k ∧ LSt w wr v qs ∧ QCap qs) (fun _ i _ => P2 - (intOf i).toNat)
  case atStart => exact ⟨0, [], Nat.zero_le _, rfl, rfl, lst_start w, fun q hq => by cases hq⟩
  case round =>
    obtain ⟨k, qs, hk, rfl, hqs, hst, hqc⟩ := hrel
    have HQC : Hid (QCap qs) := hqc
    clear hqc
    have hql : qs.length ≤ 128 := by
      have h1 := congrArg List.length hqs
      have h2 := lstTo_len en k
      rw [List.length_map] at h1
      omega
    have HQS : Hid (qs.map QI.zs = lstTo en k) := hqs
    clear hqs
    by_cases hlt : k < P2
    · have HK2 : Hid (k < 2 ^ many) := by show k < 2 ^ many; rw [← HP2.out]; exact hlt
      have hk3 : (k : Int) < (P2 : Int) := by omega
      have hk7 : k < 128 := by omega
      obtain ⟨av, cv, rfl, -, -⟩ := ownsZ_cap hst.own
      have hal : Below wr.heap.size wr (wr.alloc (.cells #[.int .u64 (k : Int)] 56)) := (Below.refl _ _).alloc (Nat.le_refl _) _
      have BW := hst.bel.trans (hal.mono hst.bel.size)
      have B0 := hB0.trans (BW.mono hB0.size)
      have cK : (wr.alloc (.cells #[.int .u64 (k : Int)] 56)).cell? ⟨wr.heap.size, 0, none⟩ = some (.int .u64 (k : Int)) := by simp [go_sem]
      have HT : Hid (∀ u, Below w.heap.size w u → TabQ u) := fun u hu => hT.bel hu
      generalize hg : en k = g1
      have G1 : Hid (en k = g1) := hg
      clear hg
      generalize hg : ndE en k = g2
      have G2 : Hid (ndE en k = g2) := hg
      clear hg hT
      have HNO : Hid ((g1 && g2) = false → qs.map QI.zs = lstTo en (k + 1)) := fun h => by
        rw [HQS.out, lstTo_succ, lstB, G1.out, G2.out, h]; simp
      have HYES : Hid ((g1 && g2) = true → qs.map QI.zs ++ [mi k] = lstTo en (k + 1)) := fun h => by
        rw [HQS.out, lstTo_succ, lstB, G1.out, G2.out, h]; simp
      go_wp2_with fail
      refine (HE.out _ _ B0 HK2.out).mono ?_
      rintro r w2 ⟨hr, hB2⟩
      rw [G1.out] at hr
      subst hr
      have BW2 := BW.trans (hB2.mono BW.size)
      have Br2 : Below wr.heap.size wr w2 := hal.trans (hB2.mono hal.size)
      have cK2 := (hB2.cell (p := ⟨wr.heap.size, 0, none⟩) (lt_of_cell cK)).trans cK
      have B02 := hB0.trans (BW2.mono hB0.size)
      clear hB2 hal BW B0 cK
      cases g1 with
      | false =>
        have HST : Hid (LSt w w2 (.slice av qs.length cv) qs) := lst_below hst Br2
        clear hst
        go_wp2
        go_roundw
        case rel => exact ⟨k + 1, qs, by omega, by go_num, HNO.out rfl, HST.out, HQC.out⟩
        case measure => simp [intOf]; omega
      | true =>
      go_wp2_with fail
      refine (needsEachBO_any en w0 Bv many k HE hmany HK2.out _ B02 (HT.out _ BW2)).mono ?_
      rintro r w3 ⟨hr, hB3⟩
      rw [G2.out] at hr
      subst hr
      have BW3 := BW2.trans (hB3.mono BW2.size)
      have Br3 := Br2.trans (hB3.mono Br2.size)
      have cK3 := (hB3.cell (p := ⟨wr.heap.size, 0, none⟩) (lt_of_cell cK2)).trans cK2
      clear hB3 BW2 Br2 cK2 B02
      cases g2 with
      | false =>
        have HST : Hid (LSt w w3 (.slice av qs.length cv) qs) := lst_below hst Br3
        clear hst
        go_wp2
        go_roundw
        case rel => exact ⟨k + 1, qs, by omega, by go_num, HNO.out rfl, HST.out, HQC.out⟩
        case measure => simp [intOf]; omega
      | true =>
      go_wp2_with fail
      refine (list_any k hk7 _ (HT.out _ BW3)).mono ?_
      intro r w4 hz
      obtain ⟨a4, c4, rfl, h4c, -, hI4, hR4, hB4⟩ := hz.ints
      have H4C : Hid ((mi k).length ≤ c4) := h4c
      clear h4c
      have Br4 := Br3.trans (hB4.mono Br3.size)
      have hR4' := hR4.mono (Br3.size)
      have hst4 := lst_below hst Br4
      have hsz := hst4.bel.size
      have hal4 : ∀ o, Below w4.heap.size w4 (w4.alloc o) := fun o => (Below.refl _ _).alloc (Nat.le_refl _) o
      have hst5 := fun o => lst_below hst4 (hal4 o)
      clear hz hB4 BW3 Br3 cK3 hR4
      go_wp2_with (at_builtin; refine wpList_append_lies _ rfl _ _ 23 rfl w.heap.size 31 i0 _ 1 24 Tryd.underlying23 hi hz0 hz1 hz2 rfl (by decide) (.slice av qs.length cv) qs.length (qs.map QI.val) rfl (hst5 _).own ⟨w4.heap.size, 0, none⟩ 1 1 [.slice a4 (mi k).length c4] rfl rfl ?c1 ?c2 (by omega) ?c3 ?c4 ?c5 (w4.heap.size + 1) ?c6 ?_)
      case c1 => exact World.news_of_block (cs := #[.slice a4 (mi k).length c4]) (t := 31) (fr := (0, 0)) (by first | exact (heap_alloc_new w4 _) | simpa using (heap_alloc_new w4 _))
      case c2 => simp [Value.oneCell']
      case c3 => unfold maxLen; omega
      case c4 => omega
      case c5 => simp; omega
      case c6 => simp
      intro g6 cap6 w6 hown6 hgrow6 hat6 _
      have hst6 := lst_step (q := ⟨mi k, a4, c4⟩) hst (Br4.trans ((hal4 _).mono Br4.size)) (hI4.below (hal4 _)) (hR4'.below (hal4 _)) hgrow6 hown6
      have HS6 : Hid (LSt w w6 (.slice (some ⟨g6, 0, none⟩) (qs.length + 1) cap6) (qs ++ [⟨mi k, a4, c4⟩])) := hst6
      clear hst6 hown6 hgrow6 hat6 hst5 hst4 hst hI4 hR4'
      go_wp2_with fail
      go_roundw
      case rel => exact ⟨k + 1, qs ++ [⟨mi k, a4, c4⟩], by omega, by go_num, by rw [List.map_append]; exact HYES.out rfl, HS6.out, HQC.out.snoc H4C.out⟩
      case measure => simp [intOf]; omega
    · obtain rfl : k = P2 := by omega
      have hk3 : ¬ ((k : Int) < (k : Int)) := by omega
      go_wp2
      go_ret
      exact ⟨_, qs, rfl, HQS.out, hst, HQC.out⟩

set_option maxRecDepth 100000 in
set_option maxHeartbeats 2000000 in
theorem implBK_any (z : Int) (a : Option Addr) (c : Nat) (L : List (List Int)) (w : World) (hs : Intss w a L) (hl : L.length ≤ maxLen) (hT : TabQ w) :
    Calls Tryd.prog 5 #[.int .i64 z, .slice a L.length c] w fun r w' => LAnsK w (boL z L) (boOk z L) r w' := by
  generalize hg : inB z 1 7 = g
  have HG : Hid (inB z 1 7 = g) := hg
  clear hg
  cases g with
  | false =>
    have HO : Hid (boOk z L = false) := by show _ = _; simp [boOk, boPre, HG.out]
    have HL : Hid (boL z L = []) := by show _ = _; unfold boL; rw [HO.out]; rfl
    go_enter Tryd.func5, Tryd.ntmps5
    go_wp2_with (go_at_call 24; refine (oneUpTo_any _ _ _).mono ?_; rintro e w' ⟨he, rfl⟩; rw [HG.out] at he; subst he)
    go_ret2
    rw [HO.out]
    exact lansK_of (qs := []) (fun q hq => by cases hq) (lst_start _) (by rw [HL.out]; rfl)
  | true =>
  have hz := inB_t.1 HG.out
  go_enter Tryd.func5, Tryd.ntmps5
  go_wp2_with (go_at_call 24; refine (oneUpTo_any _ _ _).mono ?_; rintro e w' ⟨he, hw⟩; obtain rfl := hw.symm; rw [HG.out] at he; subst he)
  refine (groupsFrom_any _ _ _ _ _ hs hl (by omega)).mono ?_
  rintro r w1 (⟨hg, rfl, hB⟩ | ⟨hg, a1, c1, rfl, hc, hm, hS, hB⟩)
  · have HO : Hid (boOk z L = false) := by show _ = _; simp [boOk, boPre, hg]
    have HL : Hid (boL z L = []) := by show _ = _; unfold boL; rw [HO.out]; rfl
    clear hg
    go_wp2
    go_ret2
    rw [HO.out]
    exact lansK_of (qs := []) (fun q hq => by cases hq) ⟨World.ownsRow_nil _ _ _ _, QIn.nil _ _, hB.alloc hB.size _⟩ (by rw [HL.out]; rfl)
  · have HD : Hid (goodL L z = true) := hg
    have hlen : (mskL L).length ≤ 1000000 := by have := (goodL_t.1 hg).2; simp [mskL]; omega
    clear hg
    obtain ⟨m, hmz⟩ := Int.eq_ofNat_of_zero_le (show 0 ≤ z by omega)
    subst hmz
    have hm7 : m ≤ 7 := by omega
    have hal : Below w1.heap.size w1 (w1.alloc (.cells #[.slice a1 (mskL L).length c1] 50)) := (Below.refl _ _).alloc (Nat.le_refl _) _
    have cG : (w1.alloc (.cells #[.slice a1 (mskL L).length c1] 50)).cell? ⟨w1.heap.size, 0, none⟩ = some (.slice a1 (mskL L).length c1) := by simp [go_sem]
    have HE : Hid (EnoughBO (w1.alloc (.cells #[.slice a1 (mskL L).length c1] 50)) w1.heap.size m (boEn L)) := boLit_any L a1 c1 w1.heap.size m _ (hS.below hal) hlen hm7 cG
    have BW := hB.trans (hal.mono hB.size)
    have hT2 := hT.bel BW
    clear hS hal cG hs
    go_wp2_with fail
    refine (leastListsBK_any _ _ w1.heap.size m HE hm7 _ (Below.refl _ _) hT2).mono ?_
    rintro r w2 ⟨v, qs, rfl, hq, hst, hqc⟩
    have HQC : Hid (QCap qs) := hqc
    clear hqc
    obtain ⟨av, cv, rfl, -, -⟩ := ownsZ_cap hst.own
    have HST : Hid (LSt w w2 (.slice av qs.length cv) qs) := lst_base hst BW
    have hql : qs.length = (lstTo (boEn L) (2 ^ m)).length := by rw [← hq]; simp
    have hqm : qs.length ≤ 128 := by rw [hql]; exact Nat.le_trans (lstTo_len _ _) (pow_small _ hm7)
    have HQ : Hid (qs.map QI.zs = lstTo (boEn L) (2 ^ m)) := hq
    by_cases h40 : (40 : Int) < qs.length
    · have HO : Hid (boOk (m : Int) L = false) := boOk_no (by omega)
      have HL : Hid (boL (m : Int) L = []) := by show _ = _; unfold boL; rw [HO.out]; rfl
      have HB2 : Hid (Below w.heap.size w w2) := HST.out.bel
      clear hst hq hql
      go_wp2
      go_ret2
      rw [HO.out]
      exact lansK_of (qs := []) (fun q hq => by cases hq) ⟨World.ownsRow_nil _ _ _ _, QIn.nil _ _, HB2.out⟩ (by rw [HL.out]; rfl)
    · have HO : Hid (boOk (m : Int) L = true) := boOk_yes HG.out HD.out (by omega)
      have HL : Hid (boL (m : Int) L = lstTo (boEn L) (2 ^ m)) := by show _ = _; unfold boL; rw [HO.out]; rfl
      clear hst hq hql
      go_wp2
      go_ret2
      rw [HO.out]
      exact lansK_of HQC.out HST.out (by rw [HL.out]; exact HQ.out)

end Go.Proofs.YtdibddkhjefmlaaDoor
