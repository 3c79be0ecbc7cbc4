/-
  Places, the program's side: takeRoom; homes sorted by their loads (slices.SortStableFunc of a few homes, the library's own text, its first branch); roomsFor.
-/
import Derived.Test.YtmpchddfijcjfaaHmI2
import Derived.Test.YtmpchddfijcjfaaHmP2
namespace Go.Proofs.Ytmpchddfijcjfaa
open Go.RowKit Go.Maps

/-- Whether there is room. -/
def roomyB (rem : List Int) (z : Int) : Bool := (rmF rem z).isSome
/-- The rooms behind it. -/
def takeR (rem : List Int) (z : Int) : List Int := if roomyB rem z = true then rem.set z.toNat (zA rem z.toNat - 1) else rem

set_option maxRecDepth 100000 in
set_option maxHeartbeats 2000000 in
theorem takeRoom_any (B n : Nat) (rem : List Int) (z : Int) (w : World) (hM : HM w B n (rmF rem)) (hn : n ≤ 1000) (hz : -1 ≤ z ∧ z ≤ 1000) (hv : ∀ h, h < rem.length → zA rem h ≤ 1000) :
    Calls Try.prog 49 #[.map (some B), .int .i64 z] w fun e w' => e = .returned (.bool (roomyB rem z)) ∧ HM w' B (n + 1) (rmF (takeR rem z)) ∧ w.grownBy w' (some B) := by
  obtain ⟨D, hown, hrd⟩ := hM
  have hhas := hrd.has z
  have hgz : ∀ o, (w.alloc o).ownsMap Try.prog 3 (plainElem Try.prog 3) B n D := fun o => hown.alloc o
  cases hr : rmF rem z with
  | none =>
    have HE : Hid (roomyB rem z = false) := by show _ = _; unfold roomyB; rw [hr]; rfl
    have HT : Hid (takeR rem z = rem) := by show _ = _; unfold takeR; rw [HE.out]; rfl
    rw [hr] at hhas
    have hh : Maps.has D (.int .i64 z) = false := hhas
    have HRD : Hid (RdM D (rmF rem)) := hrd
    clear hhas hrd hr
    go_enter Try.func49, Try.ntmps49
    go_wp2_with (first
      | (at_lookup; refine wpList_lookup_own_ok_int _ rfl _ _ 42 rfl 3 3 .i64 Try.keyI Try.underlying42 Try.underlying3 (Try.zeroI _) B n _ rfl (by first | exact hown | exact hgz _) _ _ rfl (keyOfI (by omega)) ?_; intro cc hat hwc; rw [hh]; clear hat hwc)
      | go_in)
    go_ret
    exact ⟨ret_bool HE.out.symm, by rw [HT.out]; exact ⟨D, hown.mono (by omega), HRD.out⟩, World.grownBy.refl _ _⟩
  | some v =>
    have hz2 : (0 ≤ z ∧ z < (rem.length : Int) ∧ 0 < zA rem z.toNat) ∧ v = zA rem z.toNat := by
      unfold rmF at hr
      split at hr
      · rename_i c; exact ⟨c, (Option.some.inj hr).symm⟩
      · cases hr
    obtain ⟨⟨c1, c2, c3⟩, c4⟩ := hz2
    have hvb : v ≤ 1000 := by rw [c4]; exact hv _ (by omega)
    have hv0 : 0 < v := by rw [c4]; exact c3
    have HE : Hid (roomyB rem z = true) := by show _ = _; unfold roomyB; rw [hr]; rfl
    have HT : Hid (takeR rem z = rem.set z.toNat (v - 1)) := by show _ = _; unfold takeR; rw [HE.out, if_pos rfl, c4]
    have HZN : Hid (z.toNat < rem.length ∧ ((z.toNat : Nat) : Int) = z ∧ zA rem z.toNat = v) := ⟨by omega, by omega, c4.symm⟩
    rw [hr] at hhas
    have hh : Maps.has D (.int .i64 z) = true := hhas
    have HRD : Hid (RdM D (rmF rem)) := hrd
    have HG : Hid (∀ cc, D.atKey (.int .i64 z) (.lit (.int .i64 0)) = .lit (.int .i64 cc) → cc = v) := fun cc hcc => (hrd.at0 hcc).trans (by rw [hr]; rfl)
    clear hhas hrd hr c4 c3 hv
    by_cases hv1 : v = 1
    · have HV1 : Hid (v = 1) := hv1
      have dv : (v - 1 == 0) = true := by simp; omega
      clear hv1
      go_enter Try.func49, Try.ntmps49
      go_wp2_with (first
        | (at_lookup; refine wpList_lookup_own_ok_int _ rfl _ _ 42 rfl 3 3 .i64 Try.keyI Try.underlying42 Try.underlying3 (Try.zeroI _) B n _ rfl hown _ _ rfl (keyOfI (by omega)) ?_; intro cc hat hwc; rw [hh]; clear hat hwc)
        | (at_lookup; refine wpList_lookup_own_int _ rfl _ _ 42 rfl 3 3 .i64 Try.keyI Try.underlying42 Try.underlying3 (Try.zeroI _) B n _ rfl hown _ _ rfl (keyOfI (by omega)) ?_; intro cc hat hwc; have hcc := HG.out cc hat; rw [hcc]; clear hat hwc hcc)
        | (at_mapUpdate; refine wpList_mapUpdate_own _ rfl _ _ _ 42 rfl 3 3 Try.keyI Try.underlying42 _ B n _ rfl hown (by unfold maxLen; omega) _ _ _ rfl rfl (keyOfI (by omega)) _ [] (elemI (by omega)) ?_; intro w1 hown1 hgr1; have HG2 : Hid (∀ cc, (D.put (.int .i64 z) (.lit (.int .i64 (v - 1)))).atKey (.int .i64 z) (.lit (.int .i64 0)) = .lit (.int .i64 cc) → cc = v - 1) := (fun cc hcc => ((HRD.out.put hown.isMap z (v - 1)).at0 hcc).trans (by rw [upM_same]; rfl)))
        | (at_lookup; refine wpList_lookup_own_int _ rfl _ _ 42 rfl 3 3 .i64 Try.keyI Try.underlying42 Try.underlying3 (Try.zeroI _) B (n + 1) _ rfl hown1 _ _ rfl (keyOfI (by omega)) ?_; intro cc hat hwc; have hcc := HG2.out cc hat; rw [hcc]; clear hat hwc hcc)
        | (at_delete; refine wpList_delete_own _ rfl _ _ 42 3 rfl 3 Try.keyI Try.underlying42 _ B (n + 1) _ rfl hown1 _ _ rfl (keyOfI (by omega)) ?_; intro w2 hown2 hturn2)
        | go_in)
      go_ret
      refine ⟨ret_bool HE.out.symm, ⟨_, hown2, ?_⟩, hgr1.trans hturn2.grown⟩
      obtain ⟨k1, k2, k3⟩ := HZN.out
      have hx := rmF_del k1 (k3.trans HV1.out) (v - 1)
      rw [k2, k3] at hx
      rw [HT.out, ← funext hx]
      exact (HRD.out.put hown.isMap z _).del z
    · go_enter Try.func49, Try.ntmps49
      have dv : (v - 1 == 0) = false := by simp; omega
      go_wp2_with (first
        | (at_lookup; refine wpList_lookup_own_ok_int _ rfl _ _ 42 rfl 3 3 .i64 Try.keyI Try.underlying42 Try.underlying3 (Try.zeroI _) B n _ rfl hown _ _ rfl (keyOfI (by omega)) ?_; intro cc hat hwc; rw [hh]; clear hat hwc)
        | (at_lookup; refine wpList_lookup_own_int _ rfl _ _ 42 rfl 3 3 .i64 Try.keyI Try.underlying42 Try.underlying3 (Try.zeroI _) B n _ rfl hown _ _ rfl (keyOfI (by omega)) ?_; intro cc hat hwc; have hcc := HG.out cc hat; rw [hcc]; clear hat hwc hcc)
        | (at_mapUpdate; refine wpList_mapUpdate_own _ rfl _ _ _ 42 rfl 3 3 Try.keyI Try.underlying42 _ B n _ rfl hown (by unfold maxLen; omega) _ _ _ rfl rfl (keyOfI (by omega)) _ [] (elemI (by omega)) ?_; intro w1 hown1 hgr1; have HG2 : Hid (∀ cc, (D.put (.int .i64 z) (.lit (.int .i64 (v - 1)))).atKey (.int .i64 z) (.lit (.int .i64 0)) = .lit (.int .i64 cc) → cc = v - 1) := (fun cc hcc => ((HRD.out.put hown.isMap z (v - 1)).at0 hcc).trans (by rw [upM_same]; rfl)))
        | (at_lookup; refine wpList_lookup_own_int _ rfl _ _ 42 rfl 3 3 .i64 Try.keyI Try.underlying42 Try.underlying3 (Try.zeroI _) B (n + 1) _ rfl hown1 _ _ rfl (keyOfI (by omega)) ?_; intro cc hat hwc; have hcc := HG2.out cc hat; rw [hcc]; clear hat hwc hcc)
        | go_in)
      go_ret
      refine ⟨ret_bool HE.out.symm, ⟨_, hown1, ?_⟩, hgr1⟩
      obtain ⟨k1, k2, k3⟩ := HZN.out
      have hx := rmF_dec k1 (by omega)
      rw [k2, k3] at hx
      rw [HT.out, ← funext hx]
      exact HRD.out.put hown.isMap z _

def ldv (f : Int → Option Int) (z : Int) : Int := (f z).getD 0
abbrev litC (Bx : Nat) : Value := .func (.func 53) #[] #[.pointer (some ⟨Bx, 0, none⟩)]

theorem litCmp_c (f : Int → Option Int) (Bx Bm n : Nat) (a b : Int) (w : World) (cB : w.cell? ⟨Bx, 0, none⟩ = some (.map (some Bm))) (hM : HM w Bm n f) (ha : 0 ≤ a ∧ a ≤ 1000) (hb : 0 ≤ b ∧ b ≤ 1000) (hv : ∀ z, 0 ≤ ldv f z ∧ ldv f z ≤ 1000) :
    Calls Try.prog 53 #[.int .i64 a, .int .i64 b, .pointer (some ⟨Bx, 0, none⟩)] w fun e w' => e = .returned (.int .i64 (ldv f b - ldv f a)) ∧ w' = w := by
  obtain ⟨D, hown, hrd⟩ := hM
  have HA : Hid (∀ cc, D.atKey (.int .i64 a) (.lit (.int .i64 0)) = .lit (.int .i64 cc) → cc = ldv f a) := fun cc hcc => hrd.at0 hcc
  have HB : Hid (∀ cc, D.atKey (.int .i64 b) (.lit (.int .i64 0)) = .lit (.int .i64 cc) → cc = ldv f b) := fun cc hcc => hrd.at0 hcc
  have va := hv a
  have vb := hv b
  clear hrd hv
  generalize ldv f a = A at *
  generalize ldv f b = B at *
  go_enter Try.func53, Try.ntmps53
  go_wp2_with (first
    | (at_lookup; refine wpList_lookup_own_int _ rfl _ _ 42 rfl 3 3 .i64 Try.keyI Try.underlying42 Try.underlying3 (Try.zeroI _) Bm n _ rfl hown _ _ rfl (keyOfI (by omega)) ?_; intro cc hat hwc; first | (have hcc := HB.out cc hat; rw [hcc]; clear hat hwc hcc HB) | (have hcc := HA.out cc hat; rw [hcc]; clear hat hwc hcc HA))
    | go_in)
  go_ret
  exact ⟨rfl, rfl⟩

set_option maxRecDepth 100000 in
set_option maxHeartbeats 4000000 in
theorem insCmp_any (f : Int → Option Int) (Bx Bm n g m cap : Nat) (l : List Int) (w : World) (cB : w.cell? ⟨Bx, 0, none⟩ = some (.map (some Bm))) (hM : HM w Bm n f) (hv : ∀ z, 0 ≤ ldv f z ∧ ldv f z ≤ 1000) (hx : Bx ≠ g) (hm : Bm ≠ g)
    (hR : IR w g m l) (hl : l.length ≤ 1000) (h1 : 1 ≤ l.length) (hz : ∀ z, z ∈ l → 0 ≤ z ∧ z ≤ 1000) (ha : l.Pairwise (fun a b => a < b)) :
    Calls Try.prog 72 #[.slice (some ⟨g, 0, none⟩) l.length cap, .int .i64 0, .int .i64 (l.length : Int), .func (.func 53) #[] #[.pointer (some ⟨Bx, 0, none⟩)]] w fun e w' =>
      e = .returned (.tuple #[]) ∧ ∃ L, IR w' g m L ∧ L.Perm l ∧ L.Pairwise (btH (ldv f)) ∧ w.grownBy w' (some g) := by
  have HA : Hid (∀ i y, i < l.length → y ∈ l.take i → y < zA l i) := fun i y hi hy => by
    obtain ⟨k, hk⟩ := List.getElem?_of_mem hy
    have hk1 := (List.getElem?_eq_some_iff.1 hk).1
    rw [List.length_take] at hk1
    rw [List.getElem?_take_of_lt (by omega), List.getElem?_eq_getElem (by omega)] at hk
    have hp := List.pairwise_iff_getElem.1 ha k i (by omega) hi (by omega)
    have e1 : l[i] = zA l i := by have := zA_get hi; rw [List.getElem?_eq_getElem hi] at this; exact Option.some.inj this
    rw [Option.some.inj hk, e1] at hp
    exact hp
  have HZ : Hid (∀ z, z ∈ l → 0 ≤ z ∧ z ≤ 1000) := hz
  have HV : Hid (∀ z, 0 ≤ ldv f z ∧ ldv f z ≤ 1000) := hv
  have hltM := hM.lt
  have hltX := lt_of_cell cB
  have HM0 : Hid (HM w Bm n f) := hM
  have HC0 : Hid (w.cell? ⟨Bx, 0, none⟩ = some (.map (some Bm))) := cB
  clear ha hz hv hM cB
  go_enter Try.func72, Try.ntmps72
  go_wp2
  go_loopw [8] (fun vi wr => ∃ (i : Nat) (L : List Int), vi = .int .i64 i ∧ 1 ≤ i ∧ i ≤ l.length ∧ IR wr g m L ∧ InsO (btH (ldv f)) l i L ∧ w.grownBy wr (some g)) (fun vi _ => l.length + 1 - (intOf vi).toNat)
  case atStart => exact ⟨1, l, rfl, Nat.le_refl _, h1, hR, InsO.start l, grew_refl _ _⟩
  case round =>
    obtain ⟨i, L, rfl, hi1, hi2, hRL, hO, hG⟩ := hrel
    clear hR
    by_cases hlt : i < l.length
    · have hli : (i : Int) < (l.length : Int) := by omega
      have HS0 : Hid (InsS (btH (ldv f)) l i i L) := hO.down hlt
      go_wp2
      go_loopw [9] (fun vj wr2 => ∃ (j : Nat) (L2 : List Int), vj = .int .i64 j ∧ IR wr2 g m L2 ∧ InsS (btH (ldv f)) l i j L2 ∧ w.grownBy wr2 (some g)) (fun vj _ => (intOf vj).toNat)
      case atStart => exact ⟨i, L, rfl, hRL, HS0.out, hG⟩
      case round =>
        clear hRL hO hG HS0
        obtain ⟨j, L2, rfl, hR2, hS, hG⟩ := hrel
        obtain ⟨hL2, hji⟩ := hS.len hlt
        obtain ⟨G, hGG⟩ : ∃ G : Nat → Int, ∀ t, G t = zA L2 t := ⟨fun t => zA L2 t, fun _ => rfl⟩
        have hcw : ∀ t, t < l.length → wr.cell? ⟨g, t, none⟩ = some (.int .i64 (G t)) := fun t ht => by rw [hGG]; exact hR2.cell (by omega)
        have hfw : ∀ t, t < l.length → wr.frozen? ⟨g, t, none⟩ = false := fun t _ => hR2.frozen t
        have hCr : wr.cell? ⟨Bx, 0, none⟩ = some (.map (some Bm)) := (hG.cell_far ⟨Bx, 0, none⟩ hltX (by simpa using hx)).trans HC0.out
        have hMr : HM wr Bm n f := HM0.out.of_block (hG.block Bm hltM (by simpa using hm))
        have hGj : 0 ≤ G j ∧ G j ≤ 1000 := by rw [hGG, hS.at]; exact HZ.out _ (List.mem_of_getElem? (zA_get hlt))
        have hGk : 0 < j → 0 ≤ G (j - 1) ∧ G (j - 1) ≤ 1000 := fun h0 => by rw [hGG]; exact HZ.out _ (List.mem_of_mem_take (hS.mem h0))
        have HGG : Hid (∀ t, G t = zA L2 t) := hGG
        have HR2 : Hid (IR wr g m L2) := hR2
        have HS : Hid (InsS (btH (ldv f)) l i j L2) := hS
        have HG : Hid (w.grownBy wr (some g)) := hG
        have HL2 : Hid (L2.length = l.length) := hL2
        have OUT : Hid ((j = 0 ∨ ldv f (G j) ≤ ldv f (G (j - 1))) → ∀ q, ∃ (i' : Nat) (L' : List Int), Value.int .i64 ((i : Int) + 1) = .int .i64 i' ∧ 1 ≤ i' ∧ i' ≤ l.length ∧ IR (wr.drewN q) g m L' ∧ InsO (btH (ldv f)) l i' L' ∧ w.grownBy (wr.drewN q) (some g)) := fun hs q =>
          ⟨i + 1, L2, by go_num, by omega, by omega, HR2.out.drewN q, HS.out.stop hlt (btH_trans _) (fun hj => by
            rcases hs with h0 | h0
            · omega
            · rw [hGG, hGG, hS.at] at h0
              have := HA.out i _ hlt (hS.mem hj)
              unfold btH; omega), grew_drew HG.out q⟩
        clear hGG hR2 hS hG hL2
        go_wp2
        by_cases hj0 : 0 < j
        · have d0 : decide ((0 : Int) < (j : Int)) = true := by simp; omega
          have d1 : decide (0 < j) = true := by simp; omega
          have hjl : (j : Int) < (l.length : Int) := by omega
          have hjl2 : j < l.length := by omega
          have hjm : (j : Int) - 1 = ((j - 1 : Nat) : Int) := by omega
          have hjm2 : (j : Int) - 1 < (l.length : Int) := by omega
          have hjm3 : j - 1 < l.length := by omega
          have hwj : IntKind.i64.wrap ((j - 1 : Nat) : Int) = ((j - 1 : Nat) : Int) := by rw [IntKind.wrap_i64]; omega
          have hq : ∀ q, Calls Try.prog 53 #[.int .i64 (G j), .int .i64 (G (j - 1)), .pointer (some ⟨Bx, 0, none⟩)] (wr.drewN q) fun e w' => e = .returned (.int .i64 (ldv f (G (j - 1)) - ldv f (G j))) ∧ w' = wr.drewN q := fun q => litCmp_c f Bx Bm n _ _ _ (celHm (below_drewN (Below.refl _ _) q) hCr) (hMr.below (below_drewN (Below.refl _ _) q)) hGj (hGk hj0) HV.out
          have bA := HV.out (G j)
          have bB := HV.out (G (j - 1))
          have HIF : Hid (∀ A B, ldv f (G j) = A → ldv f (G (j - 1)) = B → B < A → btH (ldv f) (zA L2 j) (zA L2 (j - 1))) := fun A B e1 e2 h => by rw [← HGG.out, ← HGG.out]; unfold btH; omega
          have OUT2 : Hid (∀ A B, ldv f (G j) = A → ldv f (G (j - 1)) = B → ¬ B < A → j = 0 ∨ ldv f (G j) ≤ ldv f (G (j - 1))) := fun A B e1 e2 h => .inr (by omega)
          obtain ⟨A, hA⟩ : ∃ A, ldv f (G j) = A := ⟨_, rfl⟩
          obtain ⟨B, hB⟩ : ∃ B, ldv f (G (j - 1)) = B := ⟨_, rfl⟩
          have HIA := HIF.out A B hA hB
          have HOA := OUT2.out A B hA hB
          have HI2 : Hid (B < A → btH (ldv f) (zA L2 j) (zA L2 (j - 1))) := HIA
          have HO2 : Hid (¬ B < A → ∀ q, ∃ (i' : Nat) (L' : List Int), Value.int .i64 ((i : Int) + 1) = .int .i64 i' ∧ 1 ≤ i' ∧ i' ≤ l.length ∧ IR (wr.drewN q) g m L' ∧ InsO (btH (ldv f)) l i' L' ∧ w.grownBy (wr.drewN q) (some g)) := fun h => OUT.out (HOA h)
          rw [hA, hB] at hq
          rw [hA] at bA
          rw [hB] at bB
          clear HIA HOA HIF OUT2 OUT hA hB hGj hGk hCr hMr
          by_cases hAB : B < A
          · have hAB2 : B - A < 0 := by omega
            go_quiet (first | (go_at_call 53; refine Calls.quiet_of_same (hq _)))
            go_wp2
            go_region
            all_goals go_wp2
            go_roundw
            case rel =>
              refine ⟨j - 1, (L2.set j (G (j - 1))).set (j - 1) (G j), by first | rfl | (congr 1; omega), ?_, ?_, ?_⟩
              · refine IR.set (IR.set (HR2.out.drewN _) (by have := HL2.out; omega) _) (by rw [List.length_set]; have := HL2.out; omega) _
              · rw [HGG.out, HGG.out]
                exact HS.out.go hj0 (HI2.out hAB)
              · exact grew_set (grew_set (grew_drew HG.out _) _ _) _ _
            case measure => simp [intOf]; omega
          · have hAB2 : ¬ B - A < 0 := by omega
            go_quiet (first | (go_at_call 53; refine Calls.quiet_of_same (hq _)))
            go_wp2
            go_roundw
            case rel => exact HO2.out hAB _
            case measure => simp [intOf]; omega
        · have d0 : decide ((0 : Int) < (j : Int)) = false := by simp; omega
          have d1 : decide (0 < j) = false := by simp; omega
          go_quiet (fail)
          go_wp2
          go_roundw
          case rel => exact OUT.out (Or.inl (by omega)) _
          case measure => simp [intOf]; omega
    · obtain rfl : i = l.length := by omega
      have hd := hO.done (Nat.le_refl _)
      go_wp2
      go_end0
      exact ⟨rfl, L, hRL, hd.1, hd.2, hG⟩

end Go.Proofs.Ytmpchddfijcjfaa
