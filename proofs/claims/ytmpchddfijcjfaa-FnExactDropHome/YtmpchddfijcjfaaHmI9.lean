/-
  Places, the program's side: spreadOver, the walk; SpreadEven, FewestMoves, DropHome.
-/
import Derived.Test.YtmpchddfijcjfaaHmI8
import Derived.Test.YtmpchddfijcjfaaHmI5
namespace Go.Proofs.Ytmpchddfijcjfaa
open Go.RowKit Go.Maps

/-- Where the program's own list lies. -/
def ZO (w : World) (a : Option Addr) (g m : Nat) (l : List Int) : Prop := 0 < l.length → a = some ⟨g, 0, none⟩ ∧ IR w g m l
theorem ZO.of_block {w w' : World} {a : Option Addr} {g m : Nat} {l : List Int} (h : ZO w a g m l) (hb : 0 < l.length → w'.heap[g]? = w.heap[g]?) : ZO w' a g m l := fun h0 => by
  obtain ⟨h1, k1, f, k2, k3⟩ := h h0
  exact ⟨h1, k1, f, k2.of_block (hb h0), k3⟩
theorem ZO.lt {w : World} {a : Option Addr} {g m : Nat} {l : List Int} (h : ZO w a g m l) (h0 : 0 < l.length) : g < w.heap.size := (h h0).2.lt

set_option maxRecDepth 100000 in
set_option maxHeartbeats 8000000 in
theorem spreadOver_any (n : Nat) (gone : Int) (B : Nat) (a : Option Addr) (c : Nat) (l : List Int) (w : World) (hM : HM w B 100 (lgF n l gone)) (hs : Ints w a l) (hn0 : 0 < n) (hn : n ≤ 6) (hl : l.length ≤ 16) (hr : ∀ i, i < l.length → -1 ≤ zA l i ∧ zA l i < (n : Int)) (hg : -1 ≤ gone ∧ gone < (n : Int)) (hm0 : 0 < manyH n gone) :
    Calls Try.prog 41 #[.map (some B), .slice a l.length c] w fun e w' => ∃ a' c', e = .returned (.slice a' l.length c') ∧ Ints w' a' (sprL n l gone) ∧ RowI w' w.heap.size a' l.length ∧ Below w.heap.size w w' := by
  have HR : Hid (∀ i, i < l.length → -1 ≤ zA l i ∧ zA l i < (n : Int)) := hr
  have HIN : Hid (∀ z, (lgF n l gone z).isSome = true → 0 ≤ z ∧ z < (n : Int)) := fun z hz => ((lgF_in z).1 hz).1
  have HV : Hid (∀ z, 0 ≤ ldv (lgF n l gone) z ∧ ldv (lgF n l gone) z ≤ 1000) := fun z => by have := lgF_val (n := n) (l := l) (gone := gone) z; omega
  have HKL : Hid (0 < (keysL n (lgF n l gone)).length) := by
    have hk := (keysL_lt n (lgF n l gone)).imp (S := fun a b => a ≠ b) fun {a b} h => by omega
    have h1 : OrdH n gone ((List.range n).map fun _ => (0 : Int)) (keysL n (lgF n l gone)) := ⟨hk, fun z => by rw [keysL_mem HIN.out, lgF_in], (keysL_lt n _).imp fun {a b} h => by
      have e : ∀ k : Nat, zA ((List.range n).map fun _ => (0 : Int)) k = 0 := fun k => by
        by_cases hk : k < n
        · simp [zA, List.getD_eq_getElem?_getD, hk]
        · simp [zA, List.getD_eq_getElem?_getD, hk]
      unfold btH
      dsimp only
      rw [e, e]; omega⟩
    have := h1.len hg
    show 0 < _
    omega
  clear hr
  go_enter Try.func41, Try.ntmps41
  go_wp2_with fail
  refine (roomsFor_any B n l.length _ w hM hn HIN.out HKL.out HV.out hl).mono ?_
  rintro e w1 ⟨B2, L, rfl, hB2, hp, ho, hM1, hB1⟩
  have hord := lgF_ord hp ho
  have hL0 : 0 < L.length := by rw [hp.length_eq]; exact HKL.out
  have hrs := hord.is (l := l) hg (gnL_len l gone) hL0
  obtain ⟨rs, hrse⟩ : ∃ rs, roomL n (gnL l gone) gone = rs := ⟨_, rfl⟩
  have hroom := roomL_all (n := n) (l := gnL l gone) (gone := gone) hg hm0
  rw [hrse, gnL_len] at hroom
  rw [hrse] at hrs
  have HLOW : Hid (∀ h, h < n → 0 ≤ zA rs h) := fun h hh => (hroom.2.2 h hh).1
  have HUP : Hid (∀ h, h < n → zA rs h ≤ 17) := fun h hh => by have := (hroom.2.2 h hh).2; have := Nat.div_le_self l.length (manyH n gone); omega
  have HSUM : Hid (smTo rs n = (l.length : Int)) := hroom.2.1
  have hrl : rs.length = n := hroom.1
  have HGO : Hid (0 ≤ gone → zA rs gone.toNat = 0) := fun h0 => by rw [hrs]; exact rsJ_gone h0 hg.2
  have HSPR : Hid (sprL n l gone = filTo rs n (kpW rs l 0 l.length) l.length) := spr_is hrse HR.out HGO.out
  have hM2 : HM w1 B2 100 (rmF (remT n rs l 0)) := hM1.congr fun z => by
    rw [rkF_rooms hord, ← hrs]
    congr 1
    refine ext_zA (by rw [remT_len]; exact hrl) fun h hh => ?_
    rw [hrl] at hh
    have := HLOW.out h hh
    rw [remT_get hh, cntTo]; omega
  clear hord hp ho hrs hrse hroom hM1 HKL HV HIN hM hm0 HGO hL0
  have hs1 := hs.below hB1
  have hB2l := hM2.lt
  go_wp2_with fail
  refine (ownListH_any _ _ l w1 hs1 (by omega)).mono ?_
  rintro e w2 ⟨a2, c2, rfl, hown, hBo⟩
  have BB := stHm hB1 hBo
  have hM3 := hM2.below hBo
  have hsz1 := hB1.size
  obtain ⟨g, m, hzo, hgw, hgb⟩ : ∃ g m, ZO w2 a2 g m l ∧ (0 < l.length → w.heap.size ≤ g) ∧ (0 < l.length → g ≠ B2) := by
    by_cases h0 : 0 < l.length
    · obtain ⟨g, m, cc, e, hg1, hir⟩ := ir_of_owns hown h0
      simp only [Value.slice.injEq] at e
      exact ⟨g, m, fun _ => ⟨e.1, hir⟩, fun _ => by omega, fun _ => by omega⟩
    · exact ⟨0, 0, fun h => absurd h h0, fun h => absurd h h0, fun h => absurd h h0⟩
  clear hown hM2 hs1 hs hB1 hBo hB2l
  go_wp2
  go_loopw [19] (fun i wr => ∃ k : Nat, k ≤ l.length ∧ i = .int .i64 k ∧ ZO wr a2 g m (kpW rs l 0 k) ∧ HM wr B2 (100 + k) (rmF (remT n rs l k)) ∧ Below w.heap.size w wr) (fun i _ => l.length - (intOf i).toNat)
  case atStart => exact ⟨0, Nat.zero_le _, rfl, by rw [kpW_none]; exact hzo, hM3, BB⟩
  case round =>
    clear hzo hM3 BB
    obtain ⟨k, hk, rfl, hzo, hM, hB⟩ := hrel
    by_cases hlt : k < l.length
    · obtain ⟨ea, hir⟩ := hzo (by rw [kpW_len]; omega)
      have hgB : g ≠ B2 := hgb (by omega)
      have hgw1 := hgw (by omega)
      subst ea
      have hkl : (kpW rs l 0 k).length = l.length := kpW_len _ _ _ _
      have hc0 := hir.cell (i := k) (by omega)
      have hfz := hir.frozen k
      have hxv : zA (kpW rs l 0 k) k = zA l k := by rw [kpW_get hlt, if_neg (by omega)]
      rw [hxv] at hc0
      have hrk := HR.out k hlt
      have hki : (k : Int) < (l.length : Int) := by omega
      obtain ⟨x, hx⟩ : ∃ x, zA l k = x := ⟨_, rfl⟩
      have HX : Hid (zA l k = x) := hx
      rw [hx] at hc0 hrk
      have hrv : ∀ h, h < (remT n rs l k).length → zA (remT n rs l k) h ≤ 1000 := fun h hh => by
        rw [remT_len] at hh
        have := HUP.out h hh
        rw [remT_get hh]; omega
      have HTK := (show Hid _ from takeRoom_any B2 (100 + k) (remT n rs l k) x wr hM (by omega) (by omega) hrv)
      have HIR : Hid (IR wr g m (kpW rs l 0 k)) := hir
      have HKL2 : Hid ((kpW rs l 0 k).length = l.length) := hkl
      clear hx hxv hir hzo hM hrv hkl
      cases hry : roomyB (remT n rs l k) x with
      | true =>
        have HK : Hid (kpB rs l k ∧ takeR (remT n rs l k) x = remT n rs l (k + 1)) := by
          have h1 := hry
          unfold roomyB rmF at h1
          split at h1
          · rename_i c1
            rw [remT_len] at c1
            have hxx : zA l k = ((x.toNat : Nat) : Int) := by rw [HX.out]; omega
            refine ⟨(kp_iff hxx (by omega)).2 c1.2.2, ?_⟩
            unfold takeR
            rw [if_pos hry, remT_take hxx (by omega) c1.2.2]
          · cases h1
        go_wp2_with fail
        refine Calls.mono HTK.out ?_
        rintro e w3 ⟨he, hM3, hg3⟩
        rw [hry] at he
        subst he
        rw [HK.out.2] at hM3
        have hzo3 : ZO w3 (some ⟨g, 0, none⟩) g m (kpW rs l 0 (k + 1)) := fun _ => ⟨rfl, by
          rw [← kpW_keep (.inl HK.out.1)]
          obtain ⟨k1, f, k2, k3⟩ := HIR.out
          exact ⟨k1, f, k2.of_block (hg3.block g k2.lt (by simpa using hgB)), k3⟩⟩
        have hB3 := hB.grown hg3 hB.size (fun j hj => by cases hj; exact hB2)
        clear HTK
        go_wp2
        go_roundw
        case rel => exact ⟨k + 1, by omega, by go_num, hzo3, hM3, hB3⟩
        case measure => simp [intOf]; omega
      | false =>
        have HK : Hid (¬ kpB rs l k ∧ takeR (remT n rs l k) x = remT n rs l (k + 1)) := by
          have hno : ∀ y : Nat, zA l k = (y : Int) → y < n → ¬ 0 < zA (remT n rs l k) y := fun y hy hyn hp => by
            rw [HX.out] at hy
            have h1 := hry
            unfold roomyB at h1
            rw [hy, rmF_some (by rw [remT_len]; exact hyn) hp] at h1
            cases h1
          have hzero : ∀ y : Nat, zA l k = (y : Int) → y < n → zA (remT n rs l k) y = 0 := fun y hy hyn => by
            have h1 := hno y hy hyn
            rw [remT_get hyn] at h1 ⊢; omega
          refine ⟨fun hkp => ?_, by unfold takeR; rw [if_neg (by rw [hry]; exact Bool.false_ne_true)]; exact remT_keep hzero⟩
          have hx0 := hkp.1
          rw [HX.out] at hx0
          have hxx : zA l k = ((x.toNat : Nat) : Int) := by rw [HX.out]; omega
          exact hno x.toNat hxx (by omega) ((kp_iff hxx (by omega)).1 hkp)
        go_wp2_with fail
        refine Calls.mono HTK.out ?_
        rintro e w3 ⟨he, hM3, hg3⟩
        rw [hry] at he
        subst he
        rw [HK.out.2] at hM3
        have hir3 : IR w3 g m (kpW rs l 0 k) := by
          obtain ⟨k1, f, k2, k3⟩ := HIR.out
          exact ⟨k1, f, k2.of_block (hg3.block g k2.lt (by simpa using hgB)), k3⟩
        have hf3 := hir3.frozen k
        have hc3 := hir3.cell (i := k) (by rw [HKL2.out]; omega)
        have HIR3 : Hid (IR (w3.setCell ⟨g, k, none⟩ (.int .i64 (-1))) g m (kpW rs l 0 (k + 1))) := by
          show IR _ _ _ _
          rw [← kpW_set hlt HK.out.1]
          exact hir3.set (by rw [HKL2.out]; omega) _
        have HM4 : Hid (HM (w3.setCell ⟨g, k, none⟩ (.int .i64 (-1))) B2 (100 + k + 1) (rmF (remT n rs l (k + 1)))) := hM3.of_block (Below.heap_setCell _ ⟨g, _, none⟩ _ B2 (by simpa using fun e : B2 = g => hgB e.symm))
        have hB3 := hB.grown hg3 hB.size (fun j hj => by cases hj; exact hB2)
        clear HTK hir3 hM3 hc0 hfz
        go_wp2
        go_roundw
        case rel => exact ⟨k + 1, by omega, by go_num, fun _ => ⟨rfl, HIR3.out⟩, HM4.out, hB3.setCell hgw1 _⟩
        case measure => simp [intOf]; omega
    · obtain rfl : k = l.length := by omega
      rw [rem_same HLOW.out] at hM
      have hfi := FilI.start HR.out hn0 HLOW.out
      obtain ⟨o1, ho1⟩ : ∃ o, kpW rs l 0 l.length = o := ⟨_, rfl⟩
      rw [ho1] at hzo hM hfi
      clear ho1
      go_wp2
      go_loopw [34] (fun i wr2 => ∃ (k : Nat) (o : List Int), k ≤ l.length ∧ i = .int .i64 k ∧ FilI n rs l k o ∧ ZO wr2 a2 g m o ∧ HM wr2 B2 (200 + k) (rmF (remF n rs o)) ∧ Below w.heap.size w wr2) (fun i _ => l.length - (intOf i).toNat)
      case atStart => exact ⟨0, o1, Nat.zero_le _, rfl, hfi, hzo, hM.mono (by omega), hB⟩
      case round =>
        clear hzo hM hB hfi
        obtain ⟨k, o, hk, rfl, hfi, hzo, hM, hB⟩ := hrel
        have HFI : Hid (FilI n rs l k o) := hfi
        have hol := hfi.len
        by_cases hlt : k < l.length
        · obtain ⟨ea, hir⟩ := hzo (by omega)
          have hgB : g ≠ B2 := hgb (by omega)
          have hgw1 := hgw (by omega)
          subst ea
          have hc0 := hir.cell (i := k) (by omega)
          have hfz := hir.frozen k
          have hrk := hfi.rg k hlt
          have hki : (k : Int) < (l.length : Int) := by omega
          obtain ⟨y, hy⟩ : ∃ y, zA o k = y := ⟨_, rfl⟩
          have HY : Hid (zA o k = y) := hy
          rw [hy] at hc0 hrk
          have HIR : Hid (IR wr g m o) := hir
          have HOL : Hid (o.length = l.length) := hol
          clear hy hir hzo hfi hol
          by_cases hy1 : y = -1
          · obtain ⟨s, t, hsn, hs1, hs2, hs3⟩ := HFI.out.first hlt (by rw [HY.out]; omega) HSUM.out
            have hinO := inOrder_any B2 (200 + k) n (rmF (remF n rs o)) wr hM (by omega) (fun z hz => by unfold rmF at hz; split at hz <;> simp_all [remF_len]) (by rw [hs3]; simp) (by omega)
            rw [hs3] at hinO
            have HINO := (show Hid _ from hinO)
            have HFN : Hid (FilI n rs l (k + 1) (o.set k (s : Int))) := HFI.out.put hlt (by rw [HY.out]; omega) hs1 hsn hs2
            have hrem : 0 < zA (remF n rs o) s := by rw [remF_get hsn]; omega
            have HTK : Hid (roomyB (remF n rs o) (s : Int) = true ∧ takeR (remF n rs o) (s : Int) = remF n rs (o.set k (s : Int))) := by
              have h1 : roomyB (remF n rs o) (s : Int) = true := by unfold roomyB; rw [rmF_some (by rw [remF_len]; exact hsn) hrem]; rfl
              refine ⟨h1, ?_⟩
              unfold takeR
              rw [if_pos h1, Int.toNat_natCast, remF_step (by rw [HOL.out]; exact hlt) (by rw [HY.out]; omega) hsn]
            have HRV : Hid (∀ h, h < (remF n rs o).length → zA (remF n rs o) h ≤ 1000) := fun h hh => by
              rw [remF_len] at hh
              have := HUP.out h hh
              have h2 : 0 ≤ cntA o h := by unfold cntA; omega
              rw [remF_get hh]; omega
            have dy : (y == -1) = true := by simp [hy1]
            clear hinO hs1 hs2 hs3 hy1 hrem
            go_wp2_with fail
            refine Calls.mono HINO.out ?_
            rintro e w3 ⟨g3, m3, c3, rfl, hk3, hg3, hB3⟩
            have hk30 := hk3.cell (i := 0) (by simp)
            have hz0 : zA ((s : Int) :: t) 0 = (s : Int) := rfl
            rw [hz0] at hk30
            have hir3 := HIR.out.below hB3
            have hfz3 := hir3.frozen k
            have hc3 := hir3.cell (i := k) (by rw [HOL.out]; exact hlt)
            have hM3 := hM.below hB3
            have BB3 := stHm hB hB3
            have hir4 : IR (w3.setCell ⟨g, k, none⟩ (.int .i64 (s : Int))) g m (o.set k (s : Int)) := hir3.set (by rw [HOL.out]; exact hlt) _
            have hc4 := hir4.cell (i := k) (by rw [List.length_set, HOL.out]; exact hlt)
            rw [zA_set_same (by rw [HOL.out]; exact hlt)] at hc4
            have hM4 : HM (w3.setCell ⟨g, k, none⟩ (.int .i64 (s : Int))) B2 (200 + k) (rmF (remF n rs o)) := hM3.of_block (Below.heap_setCell _ ⟨g, _, none⟩ _ B2 (by simpa using fun e : B2 = g => hgB e.symm))
            have BB4 := BB3.setCell (p := ⟨g, k, none⟩) hgw1 (.int .i64 (s : Int))
            have HTR := (show Hid _ from takeRoom_any B2 (200 + k) (remF n rs o) (s : Int) _ hM4 (by omega) (by omega) HRV.out)
            have HIR4 : Hid (IR (w3.setCell ⟨g, k, none⟩ (.int .i64 (s : Int))) g m (o.set k (s : Int))) := hir4
            clear HINO hk3 hir3 hM3 hM4 hir4 hc0 hfz hM BB3 hz0 hB hB3
            go_wp2_with fail
            refine Calls.mono HTR.out ?_
            rintro e w5 ⟨he, hM5, hg5⟩
            rw [HTK.out.1] at he
            subst he
            rw [HTK.out.2] at hM5
            have hzo5 : ZO w5 (some ⟨g, 0, none⟩) g m (o.set k (s : Int)) := fun _ => ⟨rfl, by
              obtain ⟨k1, f, k2, k3⟩ := HIR4.out
              exact ⟨k1, f, k2.of_block (hg5.block g k2.lt (by simpa using hgB)), k3⟩⟩
            have BB5 := BB4.grown hg5 BB4.size (fun j hj => by cases hj; exact hB2)
            clear HTR hc4 BB4
            go_wp2
            go_roundw
            case rel => exact ⟨k + 1, o.set k (s : Int), by omega, by go_num, HFN.out, hzo5, hM5, BB5⟩
            case measure => simp [intOf]; omega
          · have dy : (y == -1) = false := by simp [hy1]
            have HFN : Hid (FilI n rs l (k + 1) o) := HFI.out.skip (by rw [HY.out]; omega)
            clear hy1
            go_wp2
            go_roundw
            case rel => exact ⟨k + 1, o, by omega, by go_num, HFN.out, fun _ => ⟨rfl, HIR.out⟩, hM.mono (by omega), hB⟩
            case measure => simp [intOf]; omega
        · obtain rfl : k = l.length := by omega
          have HOE : Hid (o = sprL n l gone) := hfi.is.trans HSPR.out.symm
          have hans : Ints wr a2 o ∧ RowI wr w.heap.size a2 l.length := by
            by_cases h0 : 0 < o.length
            · obtain ⟨e, hir⟩ := hzo h0
              subst e
              refine ⟨hir.ints, ?_⟩
              have := hir.rowI (hgw (by omega))
              rwa [hol] at this
            · have : o = [] := List.eq_nil_of_length_eq_zero (by omega)
              exact ⟨by rw [this]; exact Ints.nil _ _, .inl (by omega)⟩
          clear hzo hM hfi hol
          go_wp2
          go_ret
          exact ⟨a2, c2, rfl, by rw [← HOE.out]; exact hans.1, hans.2, hB⟩

end Go.Proofs.Ytmpchddfijcjfaa
