/-
  Rooms of homes, the specification's side: spec.l13Rooms. Made by mkhmr.py.
-/
import Derived.Test.YtmpchddfijcjfaaHmQ0
namespace Go.Proofs.Ytmpchddfijcjfaa
open Go.RowKit

set_option maxRecDepth 100000 in
set_option maxHeartbeats 8000000 in
theorem l13Rooms_any (n : Nat) (gone : Int) (a : Option Addr) (c : Nat) (l : List Int) (w : World) (hs : Ints w a l) (hn0 : 0 < n) (hn : n ≤ 6) (hl : l.length ≤ 16) (hr : ∀ z, z ∈ l → z < (n : Int)) (hg : -1 ≤ gone ∧ gone < n) (hm0 : 0 < manyH n gone) :
    Calls Try.prog 46 #[.int .i64 (n : Int), .slice a l.length c, .int .i64 gone] w fun e w' => ∃ g, e = .returned (.slice (some ⟨g, 0, none⟩) n n) ∧ IR w' g n (roomL n l gone) ∧ w.heap.size ≤ g ∧ Below w.heap.size w w' := by
  have HR : Hid (∀ z, z ∈ l → z < (n : Int)) := hr
  clear hr
  obtain ⟨M, hM⟩ : ∃ M, manyH n gone = M := ⟨_, rfl⟩
  rw [hM] at hm0
  obtain ⟨q, hq⟩ : ∃ q, l.length / M = q := ⟨_, rfl⟩
  have hql : q ≤ l.length := by rw [← hq]; exact Nat.div_le_self _ _
  have HRoom : Hid (roomL n l gone = rmIt (loadL n l) (q : Int) gone n (l.length % M) (rm0 n (q : Int) gone)) := by show _ = _; unfold roomL; rw [hM, hq]
  have HST : Hid (RmSt n (q : Int) gone (l.length % M) (rm0 n (q : Int) gone)) := rm0_st (Int.natCast_nonneg _) hg (by rw [hM]; exact Nat.le_of_lt (Nat.mod_lt _ hm0))
  have hdv : Int.tdiv (l.length : Int) (M : Int) = (q : Int) := by rw [← hq]; rfl
  have hrm : Int.tmod (l.length : Int) (M : Int) = ((l.length % M : Nat) : Int) := rfl
  have hMz : ((M : Int) == 0) = false := by simp; omega
  have hM0 : ¬ M = 0 := by omega
  have hwq : IntKind.i64.wrap (q : Int) = (q : Int) := by rw [← hdv]; exact Go.IntWalk.i64_quo' _ _ ⟨by omega, by omega, by omega⟩
  have hMi : (0 : Int) < (M : Int) := by omega
  have hM6 : M ≤ 6 := by rw [← hM]; unfold manyH; split <;> omega
  have hmk := run_make_row' (P := Try.prog) 22 3 (.int .i64 0) 8 Try.underlying22 Try.infoInt rfl .i64 .i64 n (by omega) (by omega)
  clear hq
  by_cases hg0 : 0 ≤ gone
  · have hMn : (n : Int) - 1 = (M : Int) := by unfold manyH at hM; rw [if_pos hg0] at hM; omega
    clear hM
    go_enter Try.func46, Try.ntmps46
    go_wp2_with fail
    refine (l13Loads_c n _ _ l _ hs hn0 (by omega) (by omega) HR.out).mono ?_
    rintro r w1 ⟨gl, ml, rfl, hL, hgl, hB1⟩
    have hsz1 := hB1.size
    obtain ⟨u2, hu2⟩ : ∃ u, (w1.alloc (.cells (madeCells #[Value.int .i64 0] n) 3)) = u := ⟨_, rfl⟩
    have hK0 : IR u2 w1.heap.size n (rmK n 0 (q : Int) gone) := by
      refine ⟨by rw [rmK_len]; exact Nat.le_refl _, _, (by rw [← hu2]; exact World.rowIs_made _ _ _ _ : u2.rowIs w1.heap.size 3 n (fun _ => .int .i64 0)), fun i hi => ?_⟩
      rw [rmK_len] at hi
      rw [rmK_get hi, if_neg (by omega)]
    have B2 : Below w1.heap.size w1 u2 := by rw [← hu2]; exact alHm _ _
    have hg1 := hL.lt
    go_wp2
    clear hmk hu2
    go_loopw [26] (fun i wr => ∃ k : Nat, k ≤ n ∧ i = .int .i64 k ∧ IR wr w1.heap.size n (rmK n k (q : Int) gone) ∧ Below w1.heap.size w1 wr) (fun i _ => n - (intOf i).toNat)
    case atStart => exact ⟨0, Nat.zero_le _, rfl, hK0, B2⟩
    case round =>
      clear hK0 B2
      obtain ⟨k, hk, rfl, hK, hB⟩ := hrel
      by_cases hlt : k < n
      · have hki : (k : Int) < (n : Int) := by omega
        by_cases hkg : (k : Int) = gone
        · have hd : ((k : Int) != gone) = false := by simp [hkg]
          have HN : Hid (IR wr w1.heap.size n (rmK n (k + 1) (q : Int) gone)) := by show IR _ _ _ _; rw [rmK_skip hkg]; exact hK
          clear hkg hK
          go_wp2
          go_roundw
          case rel => exact ⟨k + 1, by omega, by go_num, HN.out, hB⟩
          case measure => simp [intOf]; omega
        · have hd : ((k : Int) != gone) = true := by simp [hkg]
          have hkl : k < (rmK n k (q : Int) gone).length := by rw [rmK_len]; exact hlt
          have HN : Hid (IR (wr.setCell ⟨w1.heap.size, k, none⟩ (.int .i64 (q : Int))) w1.heap.size n (rmK n (k + 1) (q : Int) gone)) := by show IR _ _ _ _; rw [rmK_put hlt hkg]; exact hK.set hkl _
          have hc := hK.cell hkl
          have hf := hK.frozen k
          clear hkg hK
          go_wp2
          go_roundw
          case rel => exact ⟨k + 1, by omega, by go_num, HN.out, hB.setCell (Nat.le_refl _) _⟩
          case measure => simp [intOf]; omega
      · have hkn : k = n := by omega
        rw [hkn, rmK_all] at hK
        rw [hkn]
        clear hlt hk hkn
        obtain ⟨m0, hm0'⟩ : ∃ m0, l.length % M = m0 := ⟨_, rfl⟩
        have HRoom2 : Hid (roomL n l gone = rmIt (loadL n l) (q : Int) gone n m0 (rm0 n (q : Int) gone)) := by show _ = _; rw [← hm0']; exact HRoom.out
        have HST2 : Hid (RmSt n (q : Int) gone m0 (rm0 n (q : Int) gone)) := by show RmSt _ _ _ _ _; rw [← hm0']; exact HST.out
        rw [hm0'] at hrm
        have hm16 : m0 ≤ 16 := by rw [← hm0']; exact Nat.le_trans (Nat.mod_le _ _) hl
        clear HST HRoom hm0'
        go_wp2
        go_loopw [11] (fun s wr2 => ∃ (m : Nat) (rs : List Int), m ≤ 16 ∧ s = .int .i64 m ∧ Hid (rmIt (loadL n l) (q : Int) gone n m rs = roomL n l gone) ∧ Hid (RmSt n (q : Int) gone m rs) ∧ IR wr2 w1.heap.size n rs ∧ Below w1.heap.size w1 wr2) (fun s _ => (intOf s).toNat)
        case atStart => exact ⟨m0, _, hm16, rfl, HRoom2.out.symm, HST2.out, hK, hB⟩
        case round =>
          clear HRoom2 HST2 hK hB
          obtain ⟨m, rs, hm16, rfl, HI, HS, hK, hB⟩ := hrel
          have hrl : rs.length = n := HS.out.len
          have HRL : Hid (rs.length = n) := hrl
          clear hrl
          rcases Nat.eq_zero_or_pos m with h0 | h0
          · subst h0
            have HF : Hid (IR wr w1.heap.size n (roomL n l gone)) := by show IR _ _ _ _; rw [← HI.out]; exact hK
            clear hK
            go_wp2
            refine bodyPost_ret (v := .slice (some ⟨w1.heap.size, 0, none⟩) n n) (by simp [results, Try.results46, go_sem]) rfl ⟨w1.heap.size, rfl, HF.out, hsz1, stHm hB1 hB⟩
          · obtain ⟨m, rfl⟩ : ∃ j, m = j + 1 := ⟨m - 1, by omega⟩
            have hmi : (0 : Int) < ((m + 1 : Nat) : Int) := by omega
            have hm1 : ((m + 1 : Nat) : Int) - 1 = (m : Int) := by omega
            obtain ⟨hb0, hb1, hb2, hb3⟩ := HS.out.step (Int.natCast_nonneg _) (loadL n l)
            have HB2 : Hid (RmSt n (q : Int) gone m (incR rs (bstTo (loadL n l) rs (q : Int) gone n))) := hb2
            have HI2 : Hid (rmIt (loadL n l) (q : Int) gone n m (incR rs (bstTo (loadL n l) rs (q : Int) gone n)) = roomL n l gone) := HI.out
            clear hb2 hb3
            have HLow : Hid (∀ h, h < n → 0 ≤ zA rs h ∧ zA rs h ≤ (q : Int) + 1) := HS.out.low
            clear HI HS
            go_wp2
            go_loopw [12, 50] (fun b i wr2 => ∃ h : Nat, h ≤ n ∧ i = .int .i64 h ∧ b = .int .i64 (bstTo (loadL n l) rs (q : Int) gone h) ∧ Below wr.heap.size wr wr2) (fun _ i _ => n - (intOf i).toNat)
            case atStart => exact ⟨0, Nat.zero_le _, rfl, rfl, Below.refl _ _⟩
            case round =>
              have hKo := hK
              have hBo := hB
              obtain ⟨h, hh, rfl, rfl, hB2⟩ := hrel
              have hK2 := hK.below hB2
              have hL2 := (hL.below hB).below hB2
              have hbr := bstTo_rg (loadL n l) rs (q : Int) gone h
              by_cases hlt : h < n
              · have hc := hK2.cell (by rw [HRL.out]; exact hlt : h < rs.length)
                have hlc := hL2.cell (by rw [loadL_len]; exact hlt : h < (loadL n l).length)
                have hhi : (h : Int) < (n : Int) := by omega
                obtain ⟨b, hb⟩ : ∃ b, bstTo (loadL n l) rs (q : Int) gone h = b := ⟨_, rfl⟩
                obtain ⟨x, hx⟩ : ∃ x, zA rs h = x := ⟨_, rfl⟩
                obtain ⟨y, hy⟩ : ∃ y, zA (loadL n l) h = y := ⟨_, rfl⟩
                have HT : Hid (((h : Int) ≠ gone ∧ x = (q : Int)) ∧ (b < 0 ∨ zA (loadL n l) b.toNat < y) → bstTo (loadL n l) rs (q : Int) gone (h + 1) = h) := fun c => bstTo_t (by rw [hb, hx, hy]; exact c)
                have HF : Hid (¬ (((h : Int) ≠ gone ∧ x = (q : Int)) ∧ (b < 0 ∨ zA (loadL n l) b.toNat < y)) → bstTo (loadL n l) rs (q : Int) gone (h + 1) = b) := fun c => (bstTo_f (by rw [hb, hx, hy]; exact c)).trans hb
                rw [hb] at hbr ⊢
                rw [hx] at hc
                rw [hy] at hlc
                clear hb hx hy
                by_cases e1 : (h : Int) = gone
                · have d1 : ((h : Int) != gone) = false := by simp [e1]
                  have HN : Hid (bstTo (loadL n l) rs (q : Int) gone (h + 1) = b) := HF.out (fun c => c.1.1 e1)
                  clear e1 HT HF hK2 hL2
                  go_wp2
                  go_quiet (fail)
                  go_wp2
                  go_roundw
                  case rel => exact ⟨h + 1, by omega, by go_num, by rw [HN.out], below_drewN hB2 _⟩
                  case measure => simp [intOf]; omega
                · have d1 : ((h : Int) != gone) = true := by simp [e1]
                  by_cases e2 : x = (q : Int)
                  · have d2 : (x == (q : Int)) = true := by simp [e2]
                    by_cases e3 : b < 0
                    · have HN : Hid (bstTo (loadL n l) rs (q : Int) gone (h + 1) = h) := HT.out ⟨⟨e1, e2⟩, .inl e3⟩
                      clear e1 e2 HT HF hK2 hL2
                      go_wp2
                      go_quiet (fail)
                      go_wp2
                      go_roundw
                      case rel => exact ⟨h + 1, by omega, by go_num, by rw [HN.out], below_drewN hB2 _⟩
                      case measure => simp [intOf]; omega
                    · obtain ⟨bn, rfl⟩ : ∃ bn : Nat, b = bn := ⟨b.toNat, by omega⟩
                      have hblc := hL2.cell (by rw [loadL_len]; omega : bn < (loadL n l).length)
                      have hbi : (bn : Int) < (n : Int) := by omega
                      have hb0' : (0 : Int) ≤ (bn : Int) := by omega
                      obtain ⟨z, hz⟩ : ∃ z, zA (loadL n l) bn = z := ⟨_, rfl⟩
                      have HZ : Hid (zA (loadL n l) (bn : Int).toNat = z) := hz
                      rw [hz] at hblc
                      clear hz
                      by_cases e4 : z < y
                      · have HN : Hid (bstTo (loadL n l) rs (q : Int) gone (h + 1) = h) := HT.out ⟨⟨e1, e2⟩, .inr (by rw [HZ.out]; exact e4)⟩
                        clear e1 e2 HT HF hK2 hL2
                        go_wp2
                        go_quiet (fail)
                        go_wp2
                        go_roundw
                        case rel =>
                          iterate 36 apply Exists.intro
                          refine ⟨⟨h + 1, by omega, ?_, ?_, ?_⟩, rfl⟩
                          · go_num
                          · rw [HN.out]
                          · exact below_drewN hB2 _
                        case measure => simp [intOf]; omega
                      · have HN : Hid (bstTo (loadL n l) rs (q : Int) gone (h + 1) = bn) := HF.out (fun c => by rcases c.2 with c2 | c2; exact e3 c2; rw [HZ.out] at c2; exact e4 c2)
                        clear e1 e2 HT HF hK2 hL2
                        go_wp2
                        go_quiet (fail)
                        go_wp2
                        go_roundw
                        case rel =>
                          iterate 36 apply Exists.intro
                          refine ⟨⟨h + 1, by omega, ?_, ?_, ?_⟩, rfl⟩
                          · go_num
                          · rw [HN.out]
                          · exact below_drewN hB2 _
                        case measure => simp [intOf]; omega
                  · have d2 : (x == (q : Int)) = false := by simp [e2]
                    have HN : Hid (bstTo (loadL n l) rs (q : Int) gone (h + 1) = b) := HF.out (fun c => e2 c.1.2)
                    clear e1 e2 HT HF hK2 hL2
                    go_wp2
                    go_quiet (fail)
                    go_wp2
                    go_roundw
                    case rel => exact ⟨h + 1, by omega, by go_num, by rw [HN.out], below_drewN hB2 _⟩
                    case measure => simp [intOf]; omega
              · have hhn : h = n := by omega
                rw [hhn]
                clear hbr hlt hh hhn
                obtain ⟨b, hb⟩ : ∃ b : Nat, bstTo (loadL n l) rs (q : Int) gone n = b := ⟨(bstTo (loadL n l) rs (q : Int) gone n).toNat, by omega⟩
                rw [hb] at hb0 hb1 HB2 HI2 ⊢
                have hbn : b < n := by omega
                have hbl : b < rs.length := by rw [HRL.out]; exact hbn
                have hc := hK2.cell hbl
                have hf := hK2.frozen b
                have hlo := HLow.out b hbn
                have HSet := hK2.set hbl (zA rs b + 1)
                obtain ⟨x, hx⟩ : ∃ x, zA rs b = x := ⟨_, rfl⟩
                have HInc : Hid (incR rs (b : Int) = rs.set b (x + 1)) := by show _ = _; simp [incR, hx]
                rw [hx] at hc hlo HSet
                have HSet2 := (show Hid _ from HSet)
                clear hb hx HSet hK2 hL2 HLow
                go_wp2
                go_roundw
                case rel => exact ⟨m, rs.set b (x + 1), by omega, by go_num, by rw [← HInc.out]; exact HI2.out, by rw [← HInc.out]; exact HB2.out, HSet2.out, (stHm hB hB2).setCell (Nat.le_refl _) _⟩
                case measure => simp [intOf]
  · have hMn : n = M := by unfold manyH at hM; rw [if_neg hg0] at hM; exact hM
    clear hM
    subst hMn
    go_enter Try.func46, Try.ntmps46
    go_wp2_with fail
    refine (l13Loads_c n _ _ l _ hs hn0 (by omega) (by omega) HR.out).mono ?_
    rintro r w1 ⟨gl, ml, rfl, hL, hgl, hB1⟩
    have hsz1 := hB1.size
    obtain ⟨u2, hu2⟩ : ∃ u, (w1.alloc (.cells (madeCells #[Value.int .i64 0] n) 3)) = u := ⟨_, rfl⟩
    have hK0 : IR u2 w1.heap.size n (rmK n 0 (q : Int) gone) := by
      refine ⟨by rw [rmK_len]; exact Nat.le_refl _, _, (by rw [← hu2]; exact World.rowIs_made _ _ _ _ : u2.rowIs w1.heap.size 3 n (fun _ => .int .i64 0)), fun i hi => ?_⟩
      rw [rmK_len] at hi
      rw [rmK_get hi, if_neg (by omega)]
    have B2 : Below w1.heap.size w1 u2 := by rw [← hu2]; exact alHm _ _
    have hg1 := hL.lt
    go_wp2
    clear hmk hu2
    go_loopw [26] (fun i wr => ∃ k : Nat, k ≤ n ∧ i = .int .i64 k ∧ IR wr w1.heap.size n (rmK n k (q : Int) gone) ∧ Below w1.heap.size w1 wr) (fun i _ => n - (intOf i).toNat)
    case atStart => exact ⟨0, Nat.zero_le _, rfl, hK0, B2⟩
    case round =>
      clear hK0 B2
      obtain ⟨k, hk, rfl, hK, hB⟩ := hrel
      by_cases hlt : k < n
      · have hki : (k : Int) < (n : Int) := by omega
        by_cases hkg : (k : Int) = gone
        · have hd : ((k : Int) != gone) = false := by simp [hkg]
          have HN : Hid (IR wr w1.heap.size n (rmK n (k + 1) (q : Int) gone)) := by show IR _ _ _ _; rw [rmK_skip hkg]; exact hK
          clear hkg hK
          go_wp2
          go_roundw
          case rel => exact ⟨k + 1, by omega, by go_num, HN.out, hB⟩
          case measure => simp [intOf]; omega
        · have hd : ((k : Int) != gone) = true := by simp [hkg]
          have hkl : k < (rmK n k (q : Int) gone).length := by rw [rmK_len]; exact hlt
          have HN : Hid (IR (wr.setCell ⟨w1.heap.size, k, none⟩ (.int .i64 (q : Int))) w1.heap.size n (rmK n (k + 1) (q : Int) gone)) := by show IR _ _ _ _; rw [rmK_put hlt hkg]; exact hK.set hkl _
          have hc := hK.cell hkl
          have hf := hK.frozen k
          clear hkg hK
          go_wp2
          go_roundw
          case rel => exact ⟨k + 1, by omega, by go_num, HN.out, hB.setCell (Nat.le_refl _) _⟩
          case measure => simp [intOf]; omega
      · have hkn : k = n := by omega
        rw [hkn, rmK_all] at hK
        rw [hkn]
        clear hlt hk hkn
        obtain ⟨m0, hm0'⟩ : ∃ m0, l.length % n = m0 := ⟨_, rfl⟩
        have HRoom2 : Hid (roomL n l gone = rmIt (loadL n l) (q : Int) gone n m0 (rm0 n (q : Int) gone)) := by show _ = _; rw [← hm0']; exact HRoom.out
        have HST2 : Hid (RmSt n (q : Int) gone m0 (rm0 n (q : Int) gone)) := by show RmSt _ _ _ _ _; rw [← hm0']; exact HST.out
        rw [hm0'] at hrm
        have hm16 : m0 ≤ 16 := by rw [← hm0']; exact Nat.le_trans (Nat.mod_le _ _) hl
        clear HST HRoom hm0'
        go_wp2
        go_loopw [11] (fun s wr2 => ∃ (m : Nat) (rs : List Int), m ≤ 16 ∧ s = .int .i64 m ∧ Hid (rmIt (loadL n l) (q : Int) gone n m rs = roomL n l gone) ∧ Hid (RmSt n (q : Int) gone m rs) ∧ IR wr2 w1.heap.size n rs ∧ Below w1.heap.size w1 wr2) (fun s _ => (intOf s).toNat)
        case atStart => exact ⟨m0, _, hm16, rfl, HRoom2.out.symm, HST2.out, hK, hB⟩
        case round =>
          clear HRoom2 HST2 hK hB
          obtain ⟨m, rs, hm16, rfl, HI, HS, hK, hB⟩ := hrel
          have hrl : rs.length = n := HS.out.len
          have HRL : Hid (rs.length = n) := hrl
          clear hrl
          rcases Nat.eq_zero_or_pos m with h0 | h0
          · subst h0
            have HF : Hid (IR wr w1.heap.size n (roomL n l gone)) := by show IR _ _ _ _; rw [← HI.out]; exact hK
            clear hK
            go_wp2
            refine bodyPost_ret (v := .slice (some ⟨w1.heap.size, 0, none⟩) n n) (by simp [results, Try.results46, go_sem]) rfl ⟨w1.heap.size, rfl, HF.out, hsz1, stHm hB1 hB⟩
          · obtain ⟨m, rfl⟩ : ∃ j, m = j + 1 := ⟨m - 1, by omega⟩
            have hmi : (0 : Int) < ((m + 1 : Nat) : Int) := by omega
            have hm1 : ((m + 1 : Nat) : Int) - 1 = (m : Int) := by omega
            obtain ⟨hb0, hb1, hb2, hb3⟩ := HS.out.step (Int.natCast_nonneg _) (loadL n l)
            have HB2 : Hid (RmSt n (q : Int) gone m (incR rs (bstTo (loadL n l) rs (q : Int) gone n))) := hb2
            have HI2 : Hid (rmIt (loadL n l) (q : Int) gone n m (incR rs (bstTo (loadL n l) rs (q : Int) gone n)) = roomL n l gone) := HI.out
            clear hb2 hb3
            have HLow : Hid (∀ h, h < n → 0 ≤ zA rs h ∧ zA rs h ≤ (q : Int) + 1) := HS.out.low
            clear HI HS
            go_wp2
            go_loopw [12, 50] (fun b i wr2 => ∃ h : Nat, h ≤ n ∧ i = .int .i64 h ∧ b = .int .i64 (bstTo (loadL n l) rs (q : Int) gone h) ∧ Below wr.heap.size wr wr2) (fun _ i _ => n - (intOf i).toNat)
            case atStart => exact ⟨0, Nat.zero_le _, rfl, rfl, Below.refl _ _⟩
            case round =>
              have hKo := hK
              have hBo := hB
              obtain ⟨h, hh, rfl, rfl, hB2⟩ := hrel
              have hK2 := hK.below hB2
              have hL2 := (hL.below hB).below hB2
              have hbr := bstTo_rg (loadL n l) rs (q : Int) gone h
              by_cases hlt : h < n
              · have hc := hK2.cell (by rw [HRL.out]; exact hlt : h < rs.length)
                have hlc := hL2.cell (by rw [loadL_len]; exact hlt : h < (loadL n l).length)
                have hhi : (h : Int) < (n : Int) := by omega
                obtain ⟨b, hb⟩ : ∃ b, bstTo (loadL n l) rs (q : Int) gone h = b := ⟨_, rfl⟩
                obtain ⟨x, hx⟩ : ∃ x, zA rs h = x := ⟨_, rfl⟩
                obtain ⟨y, hy⟩ : ∃ y, zA (loadL n l) h = y := ⟨_, rfl⟩
                have HT : Hid (((h : Int) ≠ gone ∧ x = (q : Int)) ∧ (b < 0 ∨ zA (loadL n l) b.toNat < y) → bstTo (loadL n l) rs (q : Int) gone (h + 1) = h) := fun c => bstTo_t (by rw [hb, hx, hy]; exact c)
                have HF : Hid (¬ (((h : Int) ≠ gone ∧ x = (q : Int)) ∧ (b < 0 ∨ zA (loadL n l) b.toNat < y)) → bstTo (loadL n l) rs (q : Int) gone (h + 1) = b) := fun c => (bstTo_f (by rw [hb, hx, hy]; exact c)).trans hb
                rw [hb] at hbr ⊢
                rw [hx] at hc
                rw [hy] at hlc
                clear hb hx hy
                by_cases e1 : (h : Int) = gone
                · have d1 : ((h : Int) != gone) = false := by simp [e1]
                  have HN : Hid (bstTo (loadL n l) rs (q : Int) gone (h + 1) = b) := HF.out (fun c => c.1.1 e1)
                  clear e1 HT HF hK2 hL2
                  go_wp2
                  go_quiet (fail)
                  go_wp2
                  go_roundw
                  case rel => exact ⟨h + 1, by omega, by go_num, by rw [HN.out], below_drewN hB2 _⟩
                  case measure => simp [intOf]; omega
                · have d1 : ((h : Int) != gone) = true := by simp [e1]
                  by_cases e2 : x = (q : Int)
                  · have d2 : (x == (q : Int)) = true := by simp [e2]
                    by_cases e3 : b < 0
                    · have HN : Hid (bstTo (loadL n l) rs (q : Int) gone (h + 1) = h) := HT.out ⟨⟨e1, e2⟩, .inl e3⟩
                      clear e1 e2 HT HF hK2 hL2
                      go_wp2
                      go_quiet (fail)
                      go_wp2
                      go_roundw
                      case rel => exact ⟨h + 1, by omega, by go_num, by rw [HN.out], below_drewN hB2 _⟩
                      case measure => simp [intOf]; omega
                    · obtain ⟨bn, rfl⟩ : ∃ bn : Nat, b = bn := ⟨b.toNat, by omega⟩
                      have hblc := hL2.cell (by rw [loadL_len]; omega : bn < (loadL n l).length)
                      have hbi : (bn : Int) < (n : Int) := by omega
                      have hb0' : (0 : Int) ≤ (bn : Int) := by omega
                      obtain ⟨z, hz⟩ : ∃ z, zA (loadL n l) bn = z := ⟨_, rfl⟩
                      have HZ : Hid (zA (loadL n l) (bn : Int).toNat = z) := hz
                      rw [hz] at hblc
                      clear hz
                      by_cases e4 : z < y
                      · have HN : Hid (bstTo (loadL n l) rs (q : Int) gone (h + 1) = h) := HT.out ⟨⟨e1, e2⟩, .inr (by rw [HZ.out]; exact e4)⟩
                        clear e1 e2 HT HF hK2 hL2
                        go_wp2
                        go_quiet (fail)
                        go_wp2
                        go_roundw
                        case rel =>
                          iterate 36 apply Exists.intro
                          refine ⟨⟨h + 1, by omega, ?_, ?_, ?_⟩, rfl⟩
                          · go_num
                          · rw [HN.out]
                          · exact below_drewN hB2 _
                        case measure => simp [intOf]; omega
                      · have HN : Hid (bstTo (loadL n l) rs (q : Int) gone (h + 1) = bn) := HF.out (fun c => by rcases c.2 with c2 | c2; exact e3 c2; rw [HZ.out] at c2; exact e4 c2)
                        clear e1 e2 HT HF hK2 hL2
                        go_wp2
                        go_quiet (fail)
                        go_wp2
                        go_roundw
                        case rel =>
                          iterate 36 apply Exists.intro
                          refine ⟨⟨h + 1, by omega, ?_, ?_, ?_⟩, rfl⟩
                          · go_num
                          · rw [HN.out]
                          · exact below_drewN hB2 _
                        case measure => simp [intOf]; omega
                  · have d2 : (x == (q : Int)) = false := by simp [e2]
                    have HN : Hid (bstTo (loadL n l) rs (q : Int) gone (h + 1) = b) := HF.out (fun c => e2 c.1.2)
                    clear e1 e2 HT HF hK2 hL2
                    go_wp2
                    go_quiet (fail)
                    go_wp2
                    go_roundw
                    case rel => exact ⟨h + 1, by omega, by go_num, by rw [HN.out], below_drewN hB2 _⟩
                    case measure => simp [intOf]; omega
              · have hhn : h = n := by omega
                rw [hhn]
                clear hbr hlt hh hhn
                obtain ⟨b, hb⟩ : ∃ b : Nat, bstTo (loadL n l) rs (q : Int) gone n = b := ⟨(bstTo (loadL n l) rs (q : Int) gone n).toNat, by omega⟩
                rw [hb] at hb0 hb1 HB2 HI2 ⊢
                have hbn : b < n := by omega
                have hbl : b < rs.length := by rw [HRL.out]; exact hbn
                have hc := hK2.cell hbl
                have hf := hK2.frozen b
                have hlo := HLow.out b hbn
                have HSet := hK2.set hbl (zA rs b + 1)
                obtain ⟨x, hx⟩ : ∃ x, zA rs b = x := ⟨_, rfl⟩
                have HInc : Hid (incR rs (b : Int) = rs.set b (x + 1)) := by show _ = _; simp [incR, hx]
                rw [hx] at hc hlo HSet
                have HSet2 := (show Hid _ from HSet)
                clear hb hx HSet hK2 hL2 HLow
                go_wp2
                go_roundw
                case rel => exact ⟨m, rs.set b (x + 1), by omega, by go_num, by rw [← HInc.out]; exact HI2.out, by rw [← HInc.out]; exact HB2.out, HSet2.out, (stHm hB hB2).setCell (Nat.le_refl _) _⟩
                case measure => simp [intOf]

end Go.Proofs.Ytmpchddfijcjfaa
