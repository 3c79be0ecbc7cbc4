/-
  Racks, the specification's side: l13Racks, l13Many, RackSafe.
-/
import Derived.Test.YtilongjiacphmaaDoorHmS
import Derived.Test.YtilongjiacphmaaDoorPutL
import Derived.Test.YtilongjiacphmaaDoorIss
namespace Go.Proofs.YtilongjiacphmaaDoor
open Go.RowKit

theorem putL_len : ∀ (zs : List Int) (x : Int), (putL zs x).length ≤ zs.length + 1
  | [], x => by simp [putL]
  | y :: ys, x => by
    have := putL_len ys x
    simp only [putL]
    split
    · simp; omega
    · split <;> simp

def rkB (rk : List Int) : Bool := rk.all (fun r => inB r 0 3) && inB rk.length 1 6
/-- The racks of the first k homes of a list, each once. -/
def mnyTo (rk l : List Int) : Nat → List Int
  | 0 => []
  | k + 1 => putL (mnyTo rk l k) (zA rk (zA l k).toNat)
theorem mnyTo_len (rk l : List Int) : ∀ k, (mnyTo rk l k).length ≤ k
  | 0 => Nat.le_refl _
  | k + 1 => by
    have := mnyTo_len rk l k
    have := putL_len (mnyTo rk l k) (zA rk (zA l k).toNat)
    rw [mnyTo]; omega
def allTo' (rk : List Int) : Nat → List Int
  | 0 => []
  | k + 1 => putL (allTo' rk k) (zA rk k)
theorem allTo'_len (rk : List Int) : ∀ k, (allTo' rk k).length ≤ k
  | 0 => Nat.le_refl _
  | k + 1 => by
    have := allTo'_len rk k
    have := putL_len (allTo' rk k) (zA rk k)
    rw [allTo']; omega
/-- A list has as many racks as it can. -/
def safe1 (rk g : List Int) : Bool := decide (min g.length (allTo' rk rk.length).length ≤ (mnyTo rk g g.length).length)
def rsB (rk : List Int) (L : List (List Int)) : Bool := rkB rk && L.all (fun g => riseB g rk.length)
def rsA (rk : List Int) (L : List (List Int)) : Bool := rsB rk L && L.all (safe1 rk)

theorem rise_at {l : List Int} {m : Int} (h : riseB l m = true) : ∀ k, k < l.length → (k : Int) ≤ zA l k ∧ 0 ≤ zA l k ∧ zA l k < m
  | 0, hk => by
    have := riseB_t.1 h 0 hk
    exact ⟨by simpa using this.1, this.1, this.2.1⟩
  | k + 1, hk => by
    have ih := (rise_at h k (by omega)).1
    have := riseB_t.1 h (k + 1) hk
    have h3 := this.2.2 (by omega)
    simp only [Nat.add_sub_cancel] at h3
    exact ⟨by omega, this.1, this.2.1⟩
theorem rise_len {l : List Int} {m : Nat} (h : riseB l m = true) : l.length ≤ m := by
  rcases Nat.eq_zero_or_pos l.length with h0 | h0
  · omega
  · have := rise_at h (l.length - 1) (by omega)
    omega

set_option maxHeartbeats 1000000 in
theorem l13Racks_any (a : Option Addr) (c : Nat) (rk : List Int) (w : World) (hs : Ints w a rk) (hl : rk.length ≤ maxLen) :
    Calls Tryd.prog 17 #[.slice a rk.length c] w fun e w' => e = .returned (.bool (rkB rk)) ∧ w' = w := by
  unfold maxLen at hl
  go_enter Tryd.func17, Tryd.ntmps17
  go_wp2
  go_loop [7] (fun i => ∃ k : Nat, k ≤ rk.length ∧ i = .int .i64 k ∧ Hid (allTo (fun r => inB r 0 3) rk k)) (fun i => rk.length - (intOf i).toNat)
  case atStart => exact ⟨0, Nat.zero_le _, rfl, allTo_zero _ _⟩
  case round =>
    obtain ⟨k, hk, rfl, HO⟩ := hrel
    by_cases hlt : k < rk.length
    · obtain ⟨b, off, rfl, hc⟩ := hs k _ (zA_get hlt)
      have HK : Hid (rk[k]? = some (zA rk k)) := zA_get hlt
      have hki : (k : Int) < (rk.length : Int) := by omega
      clear hs
      cases g : inB (zA rk k) 0 3 with
      | false =>
        have HE : Hid (rkB rk = false) := by show _ = _; unfold rkB; rw [all_bad HK.out g]; rfl
        go_wp2_with (go_at_call 18; refine (l1In_m _ _ _ _ _ g).mono ?_; rintro e w' ⟨rfl, rfl⟩)
        go_ret
        exact ⟨ret_bool HE.out.symm, rfl⟩
      | true =>
        have HN : Hid (allTo (fun r => inB r 0 3) rk (k + 1)) := allTo_succ HO.out HK.out g
        go_wp2_with (go_at_call 18; refine (l1In_m _ _ _ _ _ g).mono ?_; rintro e w' ⟨rfl, rfl⟩)
        go_round
        case rel => exact ⟨k + 1, by omega, by go_num, HN.out⟩
        case measure => simp [intOf]; omega
    · obtain rfl : k = rk.length := by omega
      cases g : inB (rk.length : Int) 1 6
      all_goals
        have HE : Hid (rkB rk = _) := (by unfold rkB; rw [all_done HO.out, g] : rkB rk = (true && _))
        go_wp2_with (go_at_call 18; refine (l1In_m _ _ _ _ _ g).mono ?_; rintro e w' ⟨rfl, rfl⟩)
        go_ret
        exact ⟨ret_bool (by rw [HE.out]; rfl), rfl⟩

theorem l13Racks_c (a : Option Addr) (c : Nat) (rk : List Int) (b : Bool) (w : World) (hs : Ints w a rk) (hl : rk.length ≤ maxLen) (h : rkB rk = b) :
    Calls Tryd.prog 17 #[.slice a rk.length c] w fun e w' => e = .returned (.bool b) ∧ w' = w := by
  rw [← h]; exact l13Racks_any a c rk w hs hl

set_option maxRecDepth 100000 in
set_option maxHeartbeats 2000000 in
theorem l13Many_any (a a2 : Option Addr) (c c2 : Nat) (rk l : List Int) (w : World) (hs : Ints w a rk) (hz : Ints w a2 l) (hl : l.length ≤ 6) (hr : ∀ k, k < l.length → 0 ≤ zA l k ∧ zA l k < (rk.length : Int)) :
    Calls Tryd.prog 29 #[.slice a rk.length c, .slice a2 l.length c2] w fun e w' => e = .returned (.int .i64 (((mnyTo rk l l.length).length : Nat) : Int)) ∧ Below w.heap.size w w' := by
  have HR : Hid (∀ k, k < l.length → 0 ≤ zA l k ∧ zA l k < (rk.length : Int)) := hr
  clear hr
  go_enter Tryd.func29, Tryd.ntmps29
  go_wp2
  go_loopw [5, 10] (fun v i wr => ∃ k : Nat, k ≤ l.length ∧ i = .int .i64 k ∧ ZSt w.heap.size w wr v (mnyTo rk l k)) (fun _ i _ => l.length - (intOf i).toNat)
  case atStart => exact ⟨0, Nat.zero_le _, rfl, ⟨World.ownsRow_nil _ _ _ _, Below.refl _ _⟩⟩
  case round =>
    obtain ⟨k, hk, rfl, hst⟩ := hrel
    obtain ⟨aw, cw, rfl⟩ := ownsZ_form hst.own
    have hml := mnyTo_len rk l k
    have hB := hst.bel
    have hsz := hB.size
    by_cases hlt : k < l.length
    · obtain ⟨zb, zo, rfl, z0⟩ := (hz.below hB) k _ (zA_get hlt)
      obtain ⟨h1, h2⟩ := HR.out k hlt
      obtain ⟨f, hf⟩ : ∃ f : Nat, zA l k = f := ⟨(zA l k).toNat, by omega⟩
      have HF : Hid ((zA l k).toNat = f) := by show _ = _; omega
      rw [hf] at z0 h1 h2
      clear hf
      have hfl : f < rk.length := by omega
      have hfi : (f : Int) < (rk.length : Int) := by omega
      have hki : (k : Int) < (l.length : Int) := by omega
      obtain ⟨rb, ro, ea, r0⟩ := (hs.below hB) f _ (zA_get hfl)
      subst ea
      obtain ⟨x, hx⟩ : ∃ x, zA rk f = x := ⟨_, rfl⟩
      rw [hx] at r0
      have HN : Hid (mnyTo rk l (k + 1) = putL (mnyTo rk l k) x) := by show _ = _; rw [mnyTo, HF.out, hx]
      clear hx
      obtain ⟨zs, hzs⟩ : ∃ zs, mnyTo rk l k = zs := ⟨_, rfl⟩
      rw [hzs] at hst HN hml ⊢
      clear hzs
      have hPut := l1Put_any zs x (by omega) w.heap.size aw cw wr hsz hst.own
      have HPut := (show Hid _ from hPut)
      clear hPut hst
      go_wp2_with fail
      refine Calls.mono HPut.out ?_
      rintro r w1 ⟨a1, c1, rfl, hown, hB1⟩
      have HS : Hid (ZSt w.heap.size w w1 (.slice a1 (putL zs x).length c1) (putL zs x)) := ⟨hown, hB.trans (hB1.mono hsz)⟩
      clear HPut hown
      go_wp2
      go_roundw
      case rel => exact ⟨k + 1, by omega, by go_num, by rw [HN.out]; exact HS.out⟩
      case measure => simp [intOf]; omega
    · obtain rfl : k = l.length := by omega
      clear hst
      go_wp2
      go_ret
      exact ⟨rfl, hB⟩

set_option maxRecDepth 100000 in
set_option maxHeartbeats 4000000 in
theorem specRackSafe_any (a a2 : Option Addr) (c c2 : Nat) (rk : List Int) (L : List (List Int)) (w : World) (hs : Ints w a rk) (hL : Intss w a2 L) (hl : rk.length ≤ maxLen) (hm : L.length ≤ maxLen) :
    Calls Tryd.prog 11 #[.slice a rk.length c, .slice a2 L.length c2] w fun e w' => e = .returned (.tuple #[.bool (rsA rk L), .bool (rsB rk L)]) ∧ Below w.heap.size w w' := by
  have hm' := hm
  unfold maxLen at hm'
  cases h : rkB rk with
  | false =>
    have HE : Hid (rsA rk L = false ∧ rsB rk L = false) := by show _ ∧ _; simp [rsA, rsB, h]
    go_enter Tryd.func11, Tryd.ntmps11
    go_wp2_with (go_at_call 17; refine (l13Racks_c _ _ _ _ _ hs hl h).mono ?_; rintro e w' ⟨rfl, rfl⟩)
    exact bodyPost_ret (v := .tuple #[.bool false, .bool false]) (by simp [results, Tryd.results11, go_sem]) rfl ⟨by rw [HE.out.1, HE.out.2], Below.refl _ _⟩
  | true =>
    have hr6 : rk.length ≤ 6 := by have h9 := h; simp only [rkB, Bool.and_eq_true] at h9; have := inB_t.1 h9.2; omega
    have HB : Hid (rsB rk L = L.all (fun g => riseB g rk.length)) := by show _ = _; simp [rsB, h]
    go_enter Tryd.func11, Tryd.ntmps11
    go_wp2_with (go_at_call 17; refine (l13Racks_c _ _ _ _ _ hs hl h).mono ?_; rintro e w' ⟨rfl, hw⟩; rw [hw]; clear hw w')
    go_loopw [6, 19] (fun v i wr => ∃ k : Nat, k ≤ rk.length ∧ i = .int .i64 k ∧ ZSt w.heap.size w wr v (allTo' rk k)) (fun _ i _ => rk.length - (intOf i).toNat)
    case atStart => exact ⟨0, Nat.zero_le _, rfl, ⟨World.ownsRow_nil _ _ _ _, Below.refl _ _⟩⟩
    case round =>
      obtain ⟨k, hk, rfl, hst⟩ := hrel
      obtain ⟨aw, cw, rfl⟩ := ownsZ_form hst.own
      have hml := allTo'_len rk k
      have hB := hst.bel
      have hsz := hB.size
      by_cases hlt : k < rk.length
      · obtain ⟨rb, ro, ea, r0⟩ := (hs.below hB) k _ (zA_get hlt)
        subst ea
        have hki : (k : Int) < (rk.length : Int) := by omega
        obtain ⟨x, hx⟩ : ∃ x, zA rk k = x := ⟨_, rfl⟩
        rw [hx] at r0
        have HN : Hid (allTo' rk (k + 1) = putL (allTo' rk k) x) := by show _ = _; rw [allTo', hx]
        clear hx
        obtain ⟨zs, hzs⟩ : ∃ zs, allTo' rk k = zs := ⟨_, rfl⟩
        rw [hzs] at hst HN hml ⊢
        clear hzs
        have hPut := l1Put_any zs x (by omega) w.heap.size aw cw wr hsz hst.own
        have HPut := (show Hid _ from hPut)
        clear hPut hst
        go_wp2_with fail
        refine Calls.mono HPut.out ?_
        rintro r w1 ⟨a1, c1, rfl, hown, hB1⟩
        have HS : Hid (ZSt w.heap.size w w1 (.slice a1 (putL zs x).length c1) (putL zs x)) := ⟨hown, hB.trans (hB1.mono hsz)⟩
        clear HPut hown
        go_wp2
        go_roundw
        case rel => exact ⟨k + 1, by omega, by go_num, by rw [HN.out]; exact HS.out⟩
        case measure => simp [intOf]; omega
      · obtain rfl : k = rk.length := by omega
        obtain ⟨N, hN⟩ : ∃ N, (allTo' rk rk.length).length = N := ⟨_, rfl⟩
        have HNN : Hid ((allTo' rk rk.length).length = N) := hN
        rw [hN] at hml ⊢
        clear hst hN
        go_wp2
        go_loop [29] (fun i => ∃ k : Nat, k ≤ L.length ∧ i = .int .i64 k ∧ Hid (allTo (fun g => riseB g rk.length) L k)) (fun i => L.length - (intOf i).toNat)
        case atStart => exact ⟨0, Nat.zero_le _, rfl, allTo_zero _ _⟩
        case round =>
          obtain ⟨k, hk, rfl, HO⟩ := hrel
          by_cases hlt : k < L.length
          · obtain ⟨g, hg⟩ := getL hlt
            obtain ⟨b, off, ai, ci, ea, hc, hI, hgm⟩ := (hL.below hB) k g hg
            subst ea
            have HK : Hid (L[k]? = some g) := hg
            have hki : (k : Int) < (L.length : Int) := by omega
            clear hg
            cases hri : riseB g (rk.length : Int) with
            | false =>
              have HE : Hid (rsB rk L = false ∧ rsA rk L = false) := by
                have h1 : rsB rk L = false := by rw [HB.out]; exact all_bad HK.out hri
                exact ⟨h1, by unfold rsA; rw [h1]; rfl⟩
              go_wp2_with (go_at_call 28; refine (l6Group_any _ _ g _ _ hI hgm).mono ?_; rintro e w' ⟨he, rfl⟩; rw [hri] at he; subst he)
              exact bodyPost_ret (v := .tuple #[.bool false, .bool false]) (by simp [results, Tryd.results11, go_sem]) rfl ⟨by rw [HE.out.1, HE.out.2], hB⟩
            | true =>
              have HN : Hid (allTo (fun g => riseB g rk.length) L (k + 1)) := allTo_succ HO.out HK.out hri
              go_wp2_with (go_at_call 28; refine (l6Group_any _ _ g _ _ hI hgm).mono ?_; rintro e w' ⟨he, rfl⟩; rw [hri] at he; subst he)
              go_round
              case rel => exact ⟨k + 1, by omega, by go_num, HN.out⟩
              case measure => simp [intOf]; omega
          · obtain rfl : k = L.length := by omega
            have HRi : Hid (∀ (i : Nat) g, L[i]? = some g → riseB g (rk.length : Int) = true) := fun i g hg => HO.out i g (List.getElem?_eq_some_iff.1 hg).1 hg
            have HB1 : Hid (rsB rk L = true) := by show _ = _; rw [HB.out]; exact all_done HO.out
            clear HO
            go_wp2
            go_loopw [41] (fun i wr2 => ∃ k : Nat, k ≤ L.length ∧ i = .int .i64 k ∧ Hid (allTo (safe1 rk) L k) ∧ Below w.heap.size w wr2) (fun i _ => L.length - (intOf i).toNat)
            case atStart => exact ⟨0, Nat.zero_le _, rfl, allTo_zero _ _, hB⟩
            case round =>
              clear hB
              obtain ⟨k, hk, rfl, HO, hB⟩ := hrel
              by_cases hlt : k < L.length
              · obtain ⟨g, hg⟩ := getL hlt
                obtain ⟨b, off, ai, ci, ea, hc, hI, hgm⟩ := (hL.below hB) k g hg
                subst ea
                have HK : Hid (L[k]? = some g) := hg
                have hki : (k : Int) < (L.length : Int) := by omega
                have hri := HRi.out k g hg
                have hg6 := rise_len hri
                have HMn := (show Hid _ from l13Many_any a ai c ci rk g wr (hs.below hB) hI (by omega) (fun t ht => (rise_at hri t ht).2))
                obtain ⟨M, hM⟩ : ∃ M, (mnyTo rk g g.length).length = M := ⟨_, rfl⟩
                rw [hM] at HMn
                have HMM : Hid ((mnyTo rk g g.length).length = M) := hM
                have hM6 : M ≤ 6 := by rw [← hM]; have := mnyTo_len rk g g.length; omega
                clear hg hri hM
                by_cases e1 : (N : Int) < (g.length : Int)
                · by_cases e2 : (M : Int) < (N : Int)
                  · have HE : Hid (rsA rk L = false) := by show _ = _; unfold rsA; rw [HB1.out, all_bad HK.out (by unfold safe1; rw [HNN.out, HMM.out]; exact decide_eq_false (by omega))]; rfl
                    go_wp2_with fail
                    refine Calls.mono HMn.out ?_
                    rintro r w1 ⟨rfl, hB1⟩
                    clear HMn
                    go_wp2
                    exact bodyPost_ret (v := .tuple #[.bool false, .bool true]) (by simp [results, Tryd.results11, go_sem]) rfl ⟨by rw [HE.out, HB1.out], hB.trans (hB1.mono hB.size)⟩
                  · have HN2 : Hid (allTo (safe1 rk) L (k + 1)) := allTo_succ HO.out HK.out (by unfold safe1; rw [HNN.out, HMM.out]; exact decide_eq_true (by omega))
                    go_wp2_with fail
                    refine Calls.mono HMn.out ?_
                    rintro r w1 ⟨rfl, hB1⟩
                    clear HMn
                    go_wp2
                    go_roundw
                    case rel => exact ⟨k + 1, by omega, by go_num, HN2.out, hB.trans (hB1.mono hB.size)⟩
                    case measure => simp [intOf]; omega
                · by_cases e2 : (M : Int) < (g.length : Int)
                  · have HE : Hid (rsA rk L = false) := by show _ = _; unfold rsA; rw [HB1.out, all_bad HK.out (by unfold safe1; rw [HNN.out, HMM.out]; exact decide_eq_false (by omega))]; rfl
                    go_wp2_with fail
                    refine Calls.mono HMn.out ?_
                    rintro r w1 ⟨rfl, hB1⟩
                    clear HMn
                    go_wp2
                    exact bodyPost_ret (v := .tuple #[.bool false, .bool true]) (by simp [results, Tryd.results11, go_sem]) rfl ⟨by rw [HE.out, HB1.out], hB.trans (hB1.mono hB.size)⟩
                  · have HN2 : Hid (allTo (safe1 rk) L (k + 1)) := allTo_succ HO.out HK.out (by unfold safe1; rw [HNN.out, HMM.out]; exact decide_eq_true (by omega))
                    go_wp2_with fail
                    refine Calls.mono HMn.out ?_
                    rintro r w1 ⟨rfl, hB1⟩
                    clear HMn
                    go_wp2
                    go_roundw
                    case rel => exact ⟨k + 1, by omega, by go_num, HN2.out, hB.trans (hB1.mono hB.size)⟩
                    case measure => simp [intOf]; omega
              · obtain rfl : k = L.length := by omega
                have HE : Hid (rsA rk L = true) := by show _ = _; unfold rsA; rw [HB1.out, all_done HO.out]; rfl
                go_wp2
                exact bodyPost_ret (v := .tuple #[.bool true, .bool true]) (by simp [results, Tryd.results11, go_sem]) rfl ⟨by rw [HE.out, HB1.out], hB⟩

end Go.Proofs.YtilongjiacphmaaDoor
