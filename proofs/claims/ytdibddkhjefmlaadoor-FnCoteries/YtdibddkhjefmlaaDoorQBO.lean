/-
  Blocks: the contracts of spec.l6Blocks, spec.BlocksOf, the function literal of impl.BlocksOf, and impl.BlocksOf.
-/
import Derived.Test.YtdibddkhjefmlaaDoorQLstBO
import Derived.Test.YtdibddkhjefmlaaDoorQLQs
import Derived.Test.YtdibddkhjefmlaaDoorQLQm
import Derived.Test.YtdibddkhjefmlaaDoorQImpl3
namespace Go.Proofs.YtdibddkhjefmlaaDoor
open Go.RowKit

theorem mi_rise : ∀ n, n < 128 → riseB (mi n) 7 = true ∧ msk (mi n) = n := by decide +kernel
theorem rise_up {l : List Int} {many : Int} (hm : many ≤ 7) (h : riseB l many = true) : riseB l 7 = true :=
  riseB_t.2 fun i hi => by have := riseB_t.1 h i hi; exact ⟨this.1, by omega, this.2.2⟩

/-- Members meet each group. -/
def boEn (L : List (List Int)) (x : Nat) : Bool := meE x (mskL L)
def blL (L : List (List Int)) (zs : List Int) : Bool := L.all fun g => meetL g zs

theorem all_lA2 {A : List (List Int)} {p : List Int → Bool} : A.all p = true ↔ ∀ i, i < A.length → p (lA A i) = true := by
  rw [List.all_eq_true]
  constructor
  · exact fun h i hi => h _ (List.mem_of_getElem? (lA_get hi))
  · intro h x hx
    obtain ⟨i, hi⟩ := List.getElem?_of_mem hx
    have := h i (List.getElem?_eq_some_iff.1 hi).1
    rwa [lA_some hi] at this

theorem bl_en {L : List (List Int)} {many : Int} (hm : many ≤ 7) (h : goodL L many = true) {x : Nat} (hx : x < 128) : blL L (mi x) = boEn L x := by
  rw [Bool.eq_iff_iff]
  unfold blL boEn meE
  rw [all_lA2, all_nA]
  have e : ∀ i, i < L.length → meetL (lA L i) (mi x) = meB x (nA (mskL L) i) := fun i hi => by
    have hr := rise_up hm ((goodL_t.1 h).1 i hi).2
    rw [meet_msk (many := 7) (by omega) hr (mi_rise x hx).1, (mi_rise x hx).2]
    have : nA (mskL L) i = msk (lA L i) := nA_some (by simp [mskL, lA_get hi])
    rw [this]
    unfold meB
    rw [Nat.and_comm]
  have el : (mskL L).length = L.length := by simp [mskL]
  constructor
  · intro g i hi
    rw [el] at hi
    rw [← e i hi]; exact g i hi
  · intro g i hi
    rw [e i hi]; exact g i (by rw [el]; exact hi)

def boPre (z : Int) (L : List (List Int)) : Bool := inB z 1 7 && goodL L z
def boOk (z : Int) (L : List (List Int)) : Bool := boPre z L && decide ((lstTo (boEn L) (2 ^ z.toNat)).length ≤ 40)
def boL (z : Int) (L : List (List Int)) : List (List Int) := if boOk z L then lstTo (boEn L) (2 ^ z.toNat) else []
theorem boL_small (z : Int) (L : List (List Int)) : (boL z L).length ≤ 128 ∧ ∀ l ∈ boL z L, l.length ≤ 7 := by
  unfold boL
  split
  · rename_i h
    simp only [boOk, boPre, Bool.and_eq_true, inB_t] at h
    exact lstTo_small _ (pow_small _ (by omega))
  · simp

theorem boOk_no {m : Nat} {L : List (List Int)} (h : 40 < (lstTo (boEn L) (2 ^ m)).length) : boOk (m : Int) L = false := by
  have e : decide ((lstTo (boEn L) (2 ^ ((m : Int)).toNat)).length ≤ 40) = false := decide_eq_false (by rw [Int.toNat_natCast]; omega)
  unfold boOk; rw [e]; simp
theorem boOk_yes {m : Nat} {L : List (List Int)} (h1 : inB (m : Int) 1 7 = true) (h2 : goodL L (m : Int) = true) (h : (lstTo (boEn L) (2 ^ m)).length ≤ 40) : boOk (m : Int) L = true := by
  have e : decide ((lstTo (boEn L) (2 ^ ((m : Int)).toNat)).length ≤ 40) = true := decide_eq_true (by rw [Int.toNat_natCast]; exact h)
  unfold boOk boPre; rw [e, h1, h2]; rfl

set_option maxHeartbeats 1000000 in
theorem l6Blocks_any (a a2 : Option Addr) (c c2 : Nat) (L : List (List Int)) (zs : List Int) (w : World) (hs : Intss w a L) (hz : Ints w a2 zs) (hl : L.length ≤ maxLen) (hl2 : zs.length ≤ maxLen) :
    Calls Tryd.prog 32 #[.slice a L.length c, .slice a2 zs.length c2] w fun e w' => e = .returned (.bool (blL L zs)) ∧ w' = w := by
  unfold maxLen at hl
  go_enter Tryd.func32, Tryd.ntmps32
  go_wp2
  go_loop [9] (fun i => ∃ k : Nat, k ≤ L.length ∧ i = .int .i64 k ∧ ∀ q, q < k → meetL (lA L q) zs = true) (fun i => L.length - (intOf i).toNat)
  case atStart => exact ⟨0, Nat.zero_le _, rfl, fun i hi => absurd hi (Nat.not_lt_zero _)⟩
  case round =>
    obtain ⟨k, hk, rfl, hok⟩ := hrel
    have HO : Hid (∀ q, q < k → meetL (lA L q) zs = true) := hok
    clear hok
    by_cases hlt : k < L.length
    · obtain ⟨b, off, ai, ci, rfl, hc, hI, hm⟩ := hs k _ (lA_get hlt)
      clear hs
      generalize hb : meetL (lA L k) zs = pb
      have HE : Hid (meetL (lA L k) zs = pb) := hb
      clear hb
      cases pb with
      | false =>
        go_wp2_with (go_at_call 45; refine (l6Meet_any _ _ _ _ _ _ _ hI hz hm hl2).mono ?_; rintro e w' ⟨he, rfl⟩; rw [HE.out] at he; subst he)
        go_ret
        refine ⟨ret_bool (Eq.symm ?_), rfl⟩
        rw [Bool.eq_false_iff]; intro h
        have := all_lA2.1 h k hlt
        rw [HE.out] at this; cases this
      | true =>
        go_wp2_with (go_at_call 45; refine (l6Meet_any _ _ _ _ _ _ _ hI hz hm hl2).mono ?_; rintro e w' ⟨he, rfl⟩; rw [HE.out] at he; subst he)
        go_round
        case rel =>
          refine ⟨k + 1, by omega, by go_num, fun i hi => ?_⟩
          by_cases e : i = k
          · subst e; exact HE.out
          · exact HO.out i (by omega)
        case measure => simp [intOf]; omega
    · obtain rfl : k = L.length := by omega
      clear hs
      go_wp2
      go_ret
      exact ⟨ret_bool (all_lA2.2 HO.out).symm, rfl⟩

set_option maxRecDepth 100000 in
set_option maxHeartbeats 2000000 in
theorem boLit_any (L : List (List Int)) (ga : Option Addr) (gc Bv many : Nat) (w0 : World) (hS : Sets w0 ga (mskL L)) (hlen : (mskL L).length ≤ 1000000) (hm7 : many ≤ 7)
    (cG : w0.cell? ⟨Bv, 0, none⟩ = some (.slice ga (mskL L).length gc)) : EnoughBO w0 Bv many (boEn L) := by
  intro u x hu hx
  have hx7 : x < 128 := Nat.lt_of_lt_of_le hx (pow_small _ hm7)
  have hal : Below u.heap.size u (u.alloc (.cells #[.int .u64 (x : Int)] 56)) := (Below.refl _ _).alloc (Nat.le_refl _) _
  have B0 := hu.trans (hal.mono hu.size)
  have hS1 := hS.below B0
  have cG1 := (B0.cell (p := ⟨Bv, 0, none⟩) (lt_of_cell cG)).trans cG
  clear hS cG B0
  go_enter Tryd.func27, Tryd.ntmps27
  go_wp2_with fail
  refine (meetsEach_any _ hx7 _ _ _ _ hS1 hlen).mono ?_
  rintro r w1 ⟨rfl, hB1⟩
  go_wp2
  go_ret
  exact ⟨rfl, Below.step_al (Below.refl _ _) hB1⟩

set_option maxHeartbeats 2000000 in
theorem implBO_any (z : Int) (a : Option Addr) (c : Nat) (L : List (List Int)) (w : World) (hs : Intss w a L) (hl : L.length ≤ maxLen) (hT : TabQ w) :
    Calls Tryd.prog 5 #[.int .i64 z, .slice a L.length c] w fun r w' => LAns w (boL z L) (boOk z L) r w' := by
  generalize hg : inB z 1 7 = g
  have HG : Hid (inB z 1 7 = g) := hg
  clear hg
  cases g with
  | false =>
    have HO : Hid (boOk z L = false) := by show _ = _; simp [boOk, boPre, HG.out]
    have HL : Hid (boL z L = []) := by show _ = _; unfold boL; rw [HO.out]; rfl
    go_enter Tryd.func5, Tryd.ntmps5
    go_wp2_with (go_at_call 24; refine (oneUpTo_any _ _ _).mono ?_; rintro e w' ⟨he, rfl⟩; rw [HG.out] at he; subst he)
    go_ret2
    rw [HO.out]
    exact lans_of (qs := []) (lst_start _) (by rw [HL.out]; rfl)
  | true =>
  have hz := inB_t.1 HG.out
  go_enter Tryd.func5, Tryd.ntmps5
  go_wp2_with (go_at_call 24; refine (oneUpTo_any _ _ _).mono ?_; rintro e w' ⟨he, hw⟩; obtain rfl := hw.symm; rw [HG.out] at he; subst he)
  refine (groupsFrom_any _ _ _ _ _ hs hl (by omega)).mono ?_
  rintro r w1 (⟨hg, rfl, hB⟩ | ⟨hg, a1, c1, rfl, hc, hm, hS, hB⟩)
  · have HO : Hid (boOk z L = false) := by show _ = _; simp [boOk, boPre, hg]
    have HL : Hid (boL z L = []) := by show _ = _; unfold boL; rw [HO.out]; rfl
    clear hg
    go_wp2
    go_ret2
    rw [HO.out]
    exact lans_of (qs := []) ⟨World.ownsRow_nil _ _ _ _, QIn.nil _ _, hB.alloc hB.size _⟩ (by rw [HL.out]; rfl)
  · have HD : Hid (goodL L z = true) := hg
    have hlen : (mskL L).length ≤ 1000000 := by have := (goodL_t.1 hg).2; simp [mskL]; omega
    clear hg
    obtain ⟨m, hmz⟩ := Int.eq_ofNat_of_zero_le (show 0 ≤ z by omega)
    subst hmz
    have hm7 : m ≤ 7 := by omega
    have hal : Below w1.heap.size w1 (w1.alloc (.cells #[.slice a1 (mskL L).length c1] 50)) := (Below.refl _ _).alloc (Nat.le_refl _) _
    have cG : (w1.alloc (.cells #[.slice a1 (mskL L).length c1] 50)).cell? ⟨w1.heap.size, 0, none⟩ = some (.slice a1 (mskL L).length c1) := by simp [go_sem]
    have HE : Hid (EnoughBO (w1.alloc (.cells #[.slice a1 (mskL L).length c1] 50)) w1.heap.size m (boEn L)) := boLit_any L a1 c1 w1.heap.size m _ (hS.below hal) hlen hm7 cG
    have BW := hB.trans (hal.mono hB.size)
    have hT2 := hT.bel BW
    clear hS hal cG hs
    go_wp2_with fail
    refine (leastListsBO_any _ _ w1.heap.size m HE hm7 _ (Below.refl _ _) hT2).mono ?_
    rintro r w2 ⟨v, qs, rfl, hq, hst⟩
    obtain ⟨av, cv, rfl, -, -⟩ := ownsZ_cap hst.own
    have HST : Hid (LSt w w2 (.slice av qs.length cv) qs) := lst_base hst BW
    have hql : qs.length = (lstTo (boEn L) (2 ^ m)).length := by rw [← hq]; simp
    have hqm : qs.length ≤ 128 := by rw [hql]; exact Nat.le_trans (lstTo_len _ _) (pow_small _ hm7)
    have HQ : Hid (qs.map QI.zs = lstTo (boEn L) (2 ^ m)) := hq
    by_cases h40 : (40 : Int) < qs.length
    · have HO : Hid (boOk (m : Int) L = false) := boOk_no (by omega)
      have HL : Hid (boL (m : Int) L = []) := by show _ = _; unfold boL; rw [HO.out]; rfl
      have HB2 : Hid (Below w.heap.size w w2) := HST.out.bel
      clear hst hq hql
      go_wp2
      go_ret2
      rw [HO.out]
      exact lans_of (qs := []) ⟨World.ownsRow_nil _ _ _ _, QIn.nil _ _, HB2.out⟩ (by rw [HL.out]; rfl)
    · have HO : Hid (boOk (m : Int) L = true) := boOk_yes HG.out HD.out (by omega)
      have HL : Hid (boL (m : Int) L = lstTo (boEn L) (2 ^ m)) := by show _ = _; unfold boL; rw [HO.out]; rfl
      clear hst hq hql
      go_wp2
      go_ret2
      rw [HO.out]
      exact lans_of HST.out (by rw [HL.out]; exact HQ.out)

set_option maxRecDepth 100000 in
set_option maxHeartbeats 8000000 in
theorem specBO_any (z : Int) (a : Option Addr) (c : Nat) (L : List (List Int)) (w : World) (hs : Intss w a L) (hl : L.length ≤ maxLen) :
    Calls Tryd.prog 6 #[.int .i64 z, .slice a L.length c] w fun r w' => LAns w (boL z L) (boOk z L) r w' := by
  obtain ⟨i0, hi, hz0, hz1, hz2⟩ := info_parts Tryd.infoInts
  generalize hg : inB z 1 7 = g
  have HG : Hid (inB z 1 7 = g) := hg
  clear hg
  generalize hg : goodL L z = g2
  have HD : Hid (goodL L z = g2) := hg
  clear hg
  cases g with
  | false =>
    have HO : Hid (boOk z L = false) := by show _ = _; simp [boOk, boPre, HG.out]
    have HL : Hid (boL z L = []) := by show _ = _; unfold boL; rw [HO.out]; rfl
    go_enter Tryd.func6, Tryd.ntmps6
    go_wp2_with (first | (go_at_call 29; refine (l1In_any _ _ _ _).mono ?_; rintro e w' ⟨he, rfl⟩; rw [HG.out] at he; subst he) | (go_at_call 30; refine (l6Groups_any _ _ _ _ _ hs hl).mono ?_; rintro e w' ⟨he, rfl⟩; rw [HD.out] at he; subst he))
    go_ret2
    rw [HO.out]
    exact lans_of (qs := []) (lst_start _) (by rw [HL.out]; rfl)
  | true =>
  cases g2 with
  | false =>
    have HO : Hid (boOk z L = false) := by show _ = _; simp [boOk, boPre, HD.out]
    have HL : Hid (boL z L = []) := by show _ = _; unfold boL; rw [HO.out]; rfl
    go_enter Tryd.func6, Tryd.ntmps6
    go_wp2_with (first | (go_at_call 29; refine (l1In_any _ _ _ _).mono ?_; rintro e w' ⟨he, rfl⟩; rw [HG.out] at he; subst he) | (go_at_call 30; refine (l6Groups_any _ _ _ _ _ hs hl).mono ?_; rintro e w' ⟨he, rfl⟩; rw [HD.out] at he; subst he))
    go_ret2
    rw [HO.out]
    exact lans_of (qs := []) (lst_start _) (by rw [HL.out]; rfl)
  | true =>
  have hz := inB_t.1 HG.out
  obtain ⟨mm, hmz⟩ := Int.eq_ofNat_of_zero_le (show 0 ≤ z by omega)
  subst hmz
  have hl7 : mm ≤ 7 := by omega
  obtain ⟨P2, hP2⟩ : ∃ p, p = 2 ^ mm := ⟨_, rfl⟩
  have hP128 : P2 ≤ 128 := by rw [hP2]; exact pow_small _ hl7
  have hwr : IntKind.i64.wrap ((2 : Int) ^ mm) = (P2 : Int) := by
    rw [show (2 : Int) ^ mm = (P2 : Int) by rw [hP2]; simp]
    rw [IntKind.wrap_i64]; omega
  have HP2 : Hid (P2 = 2 ^ mm) := hP2
  clear hP2
  have HEN : Hid (∀ x, x < 128 → blL L (mi x) = boEn L x) := fun x hx => bl_en (by omega) HD.out hx
  generalize hE : boEn L = en at HEN
  have HE : Hid (boEn L = en) := hE
  clear hE
  go_enter Tryd.func6, Tryd.ntmps6
  go_wp2_with (first | (go_at_call 29; refine (l1In_any _ _ _ _).mono ?_; rintro e w' ⟨he, hw⟩; obtain rfl := hw.symm; rw [HG.out] at he; subst he) | (go_at_call 30; refine (l6Groups_any _ _ _ _ _ hs hl).mono ?_; rintro e w' ⟨he, hw⟩; obtain rfl := hw.symm; rw [HD.out] at he; subst he))
  go_loopw [6, 7] (fun v i wr => ∃ k : Nat, ∃ qs : List QI, k ≤ P2 ∧ i = .int .i64 (k : Int) ∧ qs.map QI.zs = lstTo en k ∧ LSt w wr v qs) (fun _ i _ => P2 - (intOf i).toNat)
  case atStart => exact ⟨0, [], Nat.zero_le _, rfl, rfl, lst_start w⟩
  case round =>
    rename World => w2
    obtain ⟨n, qs, hn, rfl, hqs, hst⟩ := hrel
    have hql : qs.length ≤ 128 := by
      have h1 := congrArg List.length hqs
      have h2 := lstTo_len en n
      rw [List.length_map] at h1
      omega
    have HQS : Hid (qs.map QI.zs = lstTo en n) := hqs
    clear hqs
    by_cases hlt : n < P2
    · have hn3 : (n : Int) < (P2 : Int) := by omega
      have hn7 : n < 128 := by omega
      obtain ⟨av, cv, rfl, -, -⟩ := ownsZ_cap hst.own
      go_wp2_with fail
      refine (l6List_any n hn7 _).mono ?_
      intro r w3 hz3
      obtain ⟨a3, c3, rfl, hc3, hc3m, hI3, hR3, hB3⟩ := hz3.ints
      have B13 : Below w.heap.size w w3 := hst.bel.trans (hB3.mono hst.bel.size)
      have hml := mi_len n
      have hs3 := hs.below B13
      clear hz3
      go_wp2_with fail
      refine (l6Blocks_any _ _ _ _ _ _ _ hs3 hI3 hl (by unfold maxLen; omega)).mono ?_
      rintro r w4 ⟨hr, hw4⟩
      rw [HEN.out n hn7, ← lsTo_zero en n] at hr
      subst hr
      rw [hw4]
      clear hw4 w4
      have HVI : Hid (∀ u, Below w3.heap.size w3 u → Intss u a L) := fun u hu => hs3.below hu
      have HLI : Hid (∀ u, Below w3.heap.size w3 u → Ints u a3 (mi n)) := fun u hu => hI3.below hu
      have HB3 : Hid (Below w2.heap.size w2 w3) := hB3
      have HI3 : Hid (Ints w3 a3 (mi n)) := hI3
      have HR3 : Hid (RowI w3 w2.heap.size a3 (mi n).length) := hR3
      have HST : Hid (LSt w w2 (.slice av qs.length cv) qs) := hst
      clear hs3 hB3 B13 hI3 hR3 hst
      go_wp2
      go_loopw [9, 34] (fun f i wr => ∃ j : Nat, j ≤ (mi n).length ∧ i = .int .i64 (j : Int) ∧ f = .bool (lsTo en n j) ∧ Below w3.heap.size w3 wr) (fun _ i _ => (mi n).length - (intOf i).toNat)
      case atStart => exact ⟨0, Nat.zero_le _, rfl, rfl, Below.refl _ _⟩
      case round =>
        obtain ⟨j, hj, rfl, rfl, hBi⟩ := hrel
        by_cases hjl : j < (mi n).length
        · have EW : Hid ((mi n).eraseIdx j = mi (wo n (2 ^ (mem7 n).getD j 0))) := mi_erase hn7 hjl
          have hwo : wo n (2 ^ (mem7 n).getD j 0) < 128 := wo_lt hn7
          have HS : Hid (lsTo en n (j + 1) = (lsTo en n j && !en (wo n (2 ^ (mem7 n).getD j 0)))) := lsTo_succ en n j
          have hI := HLI.out _ hBi
          generalize hgl : lsTo en n j = gl at HS ⊢
          clear hgl
          cases gl with
          | false =>
            clear hI
            go_wp2
            go_roundw
            case rel => exact ⟨j + 1, by omega, by go_num, by rw [HS.out]; rfl, hBi⟩
            case measure => simp [intOf]; omega
          | true =>
            go_wp2_with fail
            refine (l6Without_any _ _ j _ _ hI hjl (by omega) hc3 hc3m).mono ?_
            intro r w6 hz6
            rw [EW.out] at hz6
            obtain ⟨a6, c6, rfl, -, -, hI6, -, hB6⟩ := hz6.ints
            have B6 : Below w3.heap.size w3 w6 := hBi.trans (hB6.mono hBi.size)
            clear hz6 hI hB6
            go_wp2_with fail
            refine (l6Blocks_any _ _ _ _ _ _ _ (HVI.out _ B6) hI6 hl (by have := mi_len (wo n (2 ^ (mem7 n).getD j 0)); unfold maxLen; omega)).mono ?_
            rintro r w7 ⟨hr, hw7⟩
            rw [HEN.out _ hwo] at hr
            subst hr
            rw [hw7]
            clear hw7 w7 hI6
            go_wp2
            go_roundw
            case rel => exact ⟨j + 1, by omega, by go_num, by rw [HS.out]; rfl, B6⟩
            case measure => simp [intOf]; omega
        · obtain rfl : j = (mi n).length := by omega
          have Br : Below w2.heap.size w2 wr := HB3.out.trans (hBi.mono HB3.out.size)
          have HF : Hid (lsTo en n (mi n).length = lstB en n) := by show _ = _; rw [show (mi n).length = (mem7 n).length by simp [mi]]; exact lsTo_all en n
          rw [HF.out]
          generalize hgl : lstB en n = gl
          have HGL : Hid (lstB en n = gl) := hgl
          clear hgl
          cases gl with
          | false =>
            have HS2 : Hid (LSt w wr (.slice av qs.length cv) qs) := lst_below HST.out Br
            go_wp2
            go_roundw
            case rel => exact ⟨n + 1, qs, by omega, by go_num, by rw [lstTo_succ, HGL.out, HQS.out]; simp, HS2.out⟩
            case measure => simp [intOf]; omega
          | true =>
            have hsti := lst_below HST.out Br
            have hali : ∀ o, Below wr.heap.size wr (wr.alloc o) := fun o => (Below.refl _ _).alloc (Nat.le_refl _) o
            have hst5 := fun o => lst_below hsti (hali o)
            have hsz := hsti.bel.size
            go_wp2_with (at_builtin; refine wpList_append_lies _ rfl _ _ 23 rfl w.heap.size 31 i0 _ 1 24 Tryd.underlying23 hi hz0 hz1 hz2 rfl (by decide) (.slice av qs.length cv) qs.length (qs.map QI.val) rfl (hst5 _).own ⟨wr.heap.size, 0, none⟩ 1 1 [.slice a3 (mi n).length c3] rfl rfl ?c1 ?c2 (by omega) ?c3 ?c4 ?c5 (wr.heap.size + 1) ?c6 ?_)
            case c1 => exact World.news_of_block (cs := #[.slice a3 (mi n).length c3]) (t := 31) (fr := (0, 0)) (by first | exact (heap_alloc_new wr _) | simpa using (heap_alloc_new wr _))
            case c2 => simp [Value.oneCell']
            case c3 => unfold maxLen; omega
            case c4 => omega
            case c5 => simp; omega
            case c6 => simp
            intro g6 cap6 w6 hown6 hgrow6 hat6 _
            have hst6 := lst_step (q := ⟨mi n, a3, c3⟩) HST.out (Br.trans ((hali _).mono Br.size)) ((HI3.out.below hBi).below (hali _)) ((HR3.out.below hBi).below (hali _)) hgrow6 hown6
            have HS6 : Hid (LSt w w6 (.slice (some ⟨g6, 0, none⟩) (qs.length + 1) cap6) (qs ++ [⟨mi n, a3, c3⟩])) := hst6
            clear hst6 hown6 hgrow6 hat6 hst5 hsti
            go_wp2_with fail
            go_roundw
            case rel => exact ⟨n + 1, qs ++ [⟨mi n, a3, c3⟩], by omega, by go_num, by rw [lstTo_succ, HGL.out, List.map_append, HQS.out]; simp, HS6.out⟩
            case measure => simp [intOf]; omega
    · obtain rfl : n = P2 := by omega
      have hn3 : ¬ ((n : Int) < (n : Int)) := by omega
      obtain ⟨av, cv, rfl, -, -⟩ := ownsZ_cap hst.own
      have HST : Hid (LSt w w2 (.slice av qs.length cv) qs) := hst
      have hql2 : qs.length = (lstTo (boEn L) (2 ^ mm)).length := by rw [HE.out, ← HP2.out, ← HQS.out]; simp
      by_cases h40 : (40 : Int) < qs.length
      · have HO : Hid (boOk (mm : Int) L = false) := boOk_no (by omega)
        have HL : Hid (boL (mm : Int) L = []) := by show _ = _; unfold boL; rw [HO.out]; rfl
        clear hst hql2
        go_wp2
        go_ret2
        rw [HO.out]
        exact lans_of (qs := []) ⟨World.ownsRow_nil _ _ _ _, QIn.nil _ _, HST.out.bel⟩ (by rw [HL.out]; rfl)
      · have HO : Hid (boOk (mm : Int) L = true) := boOk_yes HG.out HD.out (by omega)
        have HL : Hid (boL (mm : Int) L = lstTo (boEn L) (2 ^ mm)) := by show _ = _; unfold boL; rw [HO.out]; rfl
        clear hst hql2
        go_wp2
        go_ret2
        rw [HO.out]
        exact lans_of HST.out (by rw [HL.out, HQS.out, HE.out, HP2.out])

end Go.Proofs.YtdibddkhjefmlaaDoor
